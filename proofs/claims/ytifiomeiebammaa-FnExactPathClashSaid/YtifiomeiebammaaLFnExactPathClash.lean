/-
  For every input the law 'FnExactPathClash' returns true, and each of its arguments reads behind the call as it read before. Conditions: none beyond those of the row.
-/
import Derived.Test.YtifiomeiebammaaRows
import Derived.WalkKit
import Derived.ProofKit
import Derived.OpenShut
import Derived.ShutString
import Derived.ChangeOld
import Derived.Below
import Derived.Deep.Matrix
import Derived.Test.YtifiomeiebammaaLawK
import Derived.Test.YtifiomeiebammaaClashS
import Derived.Deep.DeepCutAuto
import Derived.Deep.RegionWith
namespace Go.Proofs.Ytifiomeiebammaa
open Go.RowKit

set_option maxRecDepth 100000 in
set_option maxHeartbeats 8000000 in
theorem walk_FnExactPathClash (a0 : Int) (v1 : Value) (v2 : Value) (w : World) (w0 : (Lit.int .i64 a0).wf = true) (w1 : IsPathK w v1) (w2 : IsPathK w v2) :
    Calls Try.prog 7 #[.int .i64 a0, v1, v2] w fun e w' => e = .returned (.bool true) ∧ Below w.heap.size w w' := by
  have _ := w0
  obtain ⟨ua, ua', rfl⟩ := w1.agg
  obtain ⟨ub, ub', rfl⟩ := w2.agg
  obtain ⟨W, hW, pa, pb, q⟩ := two_boxes w ua ua' ub ub' 34
  have hka := w1.below q
  have hkb := w2.below q
  have HW := Lib.hid hW
  have PA := Lib.hid pa
  have PB := Lib.hid pb
  have K0 := pa.cell0
  have K1 := pa.cell1
  have sW : W.heap.size = w.heap.size + 1 + 1 := by rw [← hW, Go.Deep.nblk_alloc, Go.Deep.nblk_alloc]
  clear hW pa pb w1 w2
  go_enter Try.func7, Try.ntmps7
  go_wp2_with fail
  rw [HW.out]
  refine (szPathK hka (by omega) (by omega)).mono ?_
  rintro e wa ⟨n, rfl, hn1, hn, ba⟩
  rcases Int.lt_or_le n 0 with hneg | hpos
  · have hd : decide (n < 0) = true := decide_eq_true hneg
    clear hn hka hkb
    go_wp2_with fail
    go_ret
    exact ⟨rfl, chain q ba⟩
  have hd : decide (n < 0) = false := by simpa using hpos
  obtain ⟨p, h⟩ := hn hpos
  clear hn hka
  have ka := (PB.out.below ba).cell0
  have kb := (PB.out.below ba).cell1
  go_wp2_with fail
  refine (szPathK (hkb.below ba) hpos hn1).mono ?_
  rintro e wb ⟨m, rfl, hm1, hm, bb⟩
  have cb := chain ba bb
  rcases Int.lt_or_le m 0 with hneg | hpos2
  · have hd2 : decide (m < 0) = true := decide_eq_true hneg
    clear hm hkb
    go_wp2_with fail
    go_ret
    exact ⟨rfl, chain q cb⟩
  have hd2 : decide (m < 0) = false := by simpa using hpos2
  obtain ⟨p', h'⟩ := hm hpos2
  have h' : PathV wb (.agg #[ub, ub']) p' := h'.below bb
  have h : PathV wb (.agg #[ua, ua']) p := h.below cb
  have PA := Lib.hid (PA.out.below cb)
  have PB := Lib.hid (PB.out.below cb)
  clear hm hkb ka kb ba bb K0 K1
  obtain ⟨cl, hcl⟩ : ∃ cl, cl = clashOf a0 p p' := ⟨_, rfl⟩
  have hcl5 : cl.length ≤ 1048576 := by have := clashOf_length a0 p p'; rw [← hcl] at this; omega
  have CS := Lib.hid (fun (X : World) (u v : Value) (j : PathV X u p) (j' : PathV X v p') => hcl ▸ specClash (n := a0) j j')
  have CI := Lib.hid (fun (X : World) (u v : Value) (j : PathV X u p) (j' : PathV X v p') => hcl ▸ implClash (n := a0) j j')
  have L := Lib.hid (And.intro h.len h'.len)
  have H := Lib.hid h
  have H' := Lib.hid h'
  clear hcl h h'
  have hcli : (cl.length : Int) ≤ 1048576 := by omega
  have kc := PA.out.cell0
  have kd := PA.out.cell1
  have ke := PB.out.cell0
  have kf := PB.out.cell1
  go_upto_region 8 with fail
  go_cut [8] (fun s wx => OwnI wx wb.heap.size s cl ∧ Below wb.heap.size wb wx)
  case first =>
    have d0 : Below wb.heap.size wb wb.drew := (Below.refl _ _).drew
    have TA := Lib.hid (fun (X : World) (b : Below wb.heap.size wb X) => toPath (H.out.below b))
    have TB := Lib.hid (fun (X : World) (b : Below wb.heap.size wb X) => toPath (H'.out.below b))
    have QA := Lib.hid (fun (X : World) (b : Below wb.heap.size wb X) => And.intro (And.intro (PA.out.below b).cell0 (PA.out.below b).cell1) (And.intro (PB.out.below b).cell0 (PB.out.below b).cell1))
    go_region_with (first
      | (go_at_call_of 23 (Value.agg #[ua, ua']); refine (TA.out _ (by first | exact dB | exact d0)).mono ?_; rintro e wA ⟨vA, rfl, oA, bA⟩; have dA : Below wb.heap.size wb wA := (by first | exact dB.trans (bA.mono dB.size) | exact d0.trans (bA.mono d0.size)); have mA := QA.out _ dA; have mA1 := mA.1.1; have mA2 := mA.1.2; have mA3 := mA.2.1; have mA4 := mA.2.2; clear mA)
      | (go_at_call_of 23 (Value.agg #[ub, ub']); refine (TB.out _ (by first | exact dA | exact d0)).mono ?_; rintro e wB ⟨vB, rfl, oB, bB⟩; have dB : Below wb.heap.size wb wB := (by first | exact dA.trans (bB.mono dA.size) | exact d0.trans (bB.mono d0.size)); have mB := QA.out _ dB; have mB1 := mB.1.1; have mB2 := mB.1.2; have mB3 := mB.2.1; have mB4 := mB.2.2; clear mB)
      | (go_at_call 30; refine (CS.out _ _ _ (by first | exact (oA.below bB).pathV L.out.1.1 L.out.1.2 | exact oA.pathV L.out.1.1 L.out.1.2) (by first | exact (oB.below bA).pathV L.out.2.1 L.out.2.2 | exact oB.pathV L.out.2.1 L.out.2.2)).mono ?_; rintro e wC ⟨vC, rfl, oC, bC⟩; have dC : Below wb.heap.size wb wC := (by first | exact dB.trans (bC.mono dB.size) | exact dA.trans (bC.mono dA.size))))
    all_goals (go_wp2_with fail; go_meet)
    all_goals exact ⟨by first | exact oC.mono dB.size | exact oC.mono dA.size, dC⟩
  case rest =>
  obtain ⟨o8, c8⟩ := hcut
  revert o8 c8
  generalize wc = w2
  intro o8 c8
  have ho8 := o8
  obtain ⟨a8, n8, k8, rfl⟩ := own_is_slice ho8
  clear ho8 kc kd ke kf
  have kc := (PA.out.below c8).cell0
  have kd := (PA.out.below c8).cell1
  go_wp2_with (go_at_call 23; refine (toPath (H.out.below c8)).mono ?_)
  rintro e w3 ⟨v3, rfl, o3, b3⟩
  obtain ⟨xa, xn, xc, ya, yn, yc, rfl⟩ := (o3.pathV L.out.1.1 L.out.1.2).form
  have c3 := c8.trans (b3.mono c8.size)
  have z2 : wb.heap.size ≤ w2.heap.size := c8.size
  have z3 : w2.heap.size ≤ w3.heap.size := b3.size
  have e3 := below_alloc w3 (.cells #[.slice xa xn xc, .slice ya yn yc] 25)
  have p3 := Pair.new w3 (.slice xa xn xc) (.slice ya yn yc) 25
  obtain ⟨w4, h4⟩ : ∃ X, X = w3.alloc (.cells #[.slice xa xn xc, .slice ya yn yc] 25) := ⟨_, rfl⟩
  rw [← h4] at e3 p3
  have H4 := Lib.hid h4.symm
  have I1 := Lib.hid o3.isIn
  have c4 := c3.trans (e3.mono c3.size)
  have O3 := Lib.hid (o3.below e3)
  have O8 := Lib.hid ((o8.below b3).below e3)
  have U8 := Lib.hid (fun b e => (o8.under b e).2)
  have P3 := Lib.hid p3
  have s34 : w4.heap.size = w3.heap.size + 1 := by rw [h4]; exact Go.Deep.nblk_alloc _ _
  clear h4 o3 b3 e3 p3 o8 kc kd c3
  have ke := (PB.out.below c4).cell0
  have kf := (PB.out.below c4).cell1
  go_upto_region 10 with fail
  rw [H4.out]
  go_wp2_with fail
  refine (toPath (H'.out.below c4)).mono ?_
  rintro e w5 ⟨v5, rfl, o5, b5⟩
  obtain ⟨za, zn, zc, ta, tn, tc, rfl⟩ := (o5.pathV L.out.2.1 L.out.2.2).form
  have c5 := c4.trans (b5.mono c4.size)
  have e5 := below_alloc w5 (.cells #[.slice za zn zc, .slice ta tn tc] 25)
  have p5 := Pair.new w5 (.slice za zn zc) (.slice ta tn tc) 25
  obtain ⟨w6, h6⟩ : ∃ X, X = w5.alloc (.cells #[.slice za zn zc, .slice ta tn tc] 25) := ⟨_, rfl⟩
  rw [← h6] at e5 p5
  have H6 := Lib.hid h6.symm
  have I2 := Lib.hid o5.isIn
  have c6 := c5.trans (e5.mono c5.size)
  have O5 := Lib.hid (o5.below e5)
  have O8 := Lib.hid ((O8.out.below b5).below e5)
  have O3 := Lib.hid ((O3.out.below b5).below e5)
  have P5 := Lib.hid p5
  have P3 := Lib.hid ((P3.out.below b5).below e5)
  have s56 : w6.heap.size = w5.heap.size + 1 := by rw [h6]; exact Go.Deep.nblk_alloc _ _
  have s45 : w4.heap.size ≤ w5.heap.size := b5.size
  have g1 := P3.out.cell0
  have g2 := P3.out.cell1
  have g3 := P5.out.cell0
  have g4 := P5.out.cell1
  clear h6 o5 b5 e5 p5 ke kf c5
  go_upto_region 11 with fail
  rw [H6.out]
  go_wp2_with fail
  refine (CI.out _ _ _ (O3.out.pathV L.out.1.1 L.out.1.2) (O5.out.pathV L.out.2.1 L.out.2.2)).mono ?_
  rintro e w7 ⟨v7, rfl, o7, b7⟩
  have ho7 := o7
  obtain ⟨a7, n7, k7, rfl⟩ := own_is_slice ho7
  have O8 := Lib.hid (O8.out.below b7)
  have O3 := Lib.hid (O3.out.below b7)
  have O5 := Lib.hid (O5.out.below b7)
  have P3 := Lib.hid (P3.out.below b7)
  have P5 := Lib.hid (P5.out.below b7)
  have U7 := Lib.hid (fun b e => (o7.under b e).1)
  have c7 := c6.trans (b7.mono c6.size)
  clear ho7 g1 g2 g3 g4 b7
  go_wp2_with fail
  refine (eqInts (o7.ints hcl5) (O8.out.ints hcl5)).mono ?_
  rintro e w8 ⟨rfl, b8⟩
  have O8 := Lib.hid (O8.out.below b8)
  have O3 := Lib.hid (O3.out.below b8)
  have O5 := Lib.hid (O5.out.below b8)
  have P3 := Lib.hid (P3.out.below b8)
  have P5 := Lib.hid (P5.out.below b8)
  have O7 := Lib.hid (o7.below b8)
  have c8 := c7.trans (b8.mono c7.size)
  clear o7 b8
  have g1 := P3.out.cell0
  have g2 := P3.out.cell1
  have g3 := (PA.out.below c8).cell0
  have g4 := (PA.out.below c8).cell1
  go_upto_region 14 with fail
  go_cut [48] (fun s wx => s = .bool false ∧ Below w8.heap.size w8 wx)
  case first =>
    have d0 : Below w8.heap.size w8 w8.drew := (Below.refl _ _).drew
    have TA := Lib.hid (fun (X : World) (b : Below w8.heap.size w8 X) => toPath (H.out.below (c8.trans (b.mono c8.size))))
    have QA := Lib.hid (fun (X : World) (b : Below w8.heap.size w8 X) => And.intro (P3.out.below b).cell0 (P3.out.below b).cell1)
    have EQ := Lib.hid (fun (X : World) (v : Value) (b : Below w8.heap.size w8 X) (j : PathV X v p) => eqPaths2 ((O3.out.pathV L.out.1.1 L.out.1.2).below b) j)
    go_region_with (first
      | (go_at_call 23; refine (TA.out _ d0).mono ?_; rintro e wA ⟨vA, rfl, oA, bA⟩; have dA := d0.trans (bA.mono d0.size); have jA := oA.pathV L.out.1.1 L.out.1.2; have mA1 := (QA.out _ dA).1; have mA2 := (QA.out _ dA).2; clear oA bA)
      | (go_at_call 25; refine (EQ.out _ _ dA jA).mono ?_; rintro e wB ⟨rfl, bB⟩))
    all_goals (go_wp2_with fail; go_meet; exact ⟨rfl, dA.trans (bB.mono dA.size)⟩)
  case rest =>
  obtain ⟨rfl, b9⟩ := hcut
  revert b9
  generalize wc = w9
  intro b9
  have O8 := Lib.hid (O8.out.below b9)
  have O3 := Lib.hid (O3.out.below b9)
  have O5 := Lib.hid (O5.out.below b9)
  have P3 := Lib.hid (P3.out.below b9)
  have P5 := Lib.hid (P5.out.below b9)
  have O7 := Lib.hid (O7.out.below b9)
  have c9 := c8.trans (b9.mono c8.size)
  clear g1 g2 g3 g4 b9
  have g1 := P5.out.cell0
  have g2 := P5.out.cell1
  have g3 := (PB.out.below c9).cell0
  have g4 := (PB.out.below c9).cell1
  go_upto_region 16 with fail
  go_cut [53] (fun s wx => s = .bool false ∧ Below w9.heap.size w9 wx)
  case first =>
    have d0 : Below w9.heap.size w9 w9.drew := (Below.refl _ _).drew
    have TA := Lib.hid (fun (X : World) (b : Below w9.heap.size w9 X) => toPath (H'.out.below (c9.trans (b.mono c9.size))))
    have QA := Lib.hid (fun (X : World) (b : Below w9.heap.size w9 X) => And.intro (P5.out.below b).cell0 (P5.out.below b).cell1)
    have EQ := Lib.hid (fun (X : World) (v : Value) (b : Below w9.heap.size w9 X) (j : PathV X v p') => eqPaths2 ((O5.out.pathV L.out.2.1 L.out.2.2).below b) j)
    go_region_with (first
      | (go_at_call 23; refine (TA.out _ d0).mono ?_; rintro e wA ⟨vA, rfl, oA, bA⟩; have dA := d0.trans (bA.mono d0.size); have jA := oA.pathV L.out.2.1 L.out.2.2; have mA1 := (QA.out _ dA).1; have mA2 := (QA.out _ dA).2; clear oA bA)
      | (go_at_call 25; refine (EQ.out _ _ dA jA).mono ?_; rintro e wB ⟨rfl, bB⟩))
    all_goals (go_wp2_with fail; go_meet; exact ⟨rfl, dA.trans (bB.mono dA.size)⟩)
  case rest =>
  obtain ⟨rfl, b10⟩ := hcut
  revert b10
  generalize wc = w10
  intro b10
  have O8 := Lib.hid (O8.out.below b10)
  have O3 := Lib.hid (O3.out.below b10)
  have O5 := Lib.hid (O5.out.below b10)
  have P3 := Lib.hid (P3.out.below b10)
  have P5 := Lib.hid (P5.out.below b10)
  have O7 := Lib.hid (O7.out.below b10)
  have c10 := c9.trans (b10.mono c9.size)
  clear g1 g2 g3 g4 b10
  have hl1 : (p.1.length : Int) ≤ 1048576 := by have := L.out.1.1; omega
  have hl2 : (p.2.length : Int) ≤ 1048576 := by have := L.out.1.2; omega
  have hl3 : (p'.1.length : Int) ≤ 1048576 := by have := L.out.2.1; omega
  have hl4 : (p'.2.length : Int) ≤ 1048576 := by have := L.out.2.2; omega
  have g1 := P3.out.cell0
  have g2 := P3.out.cell1
  go_wp2_with fail
  refine (markPath O3.out I1.out L.out.1.1 L.out.1.2 (by omega) (by omega)).mono ?_
  rintro e w11 ⟨rfl, -, m11⟩
  have c11 := m11.below c10 z2
  have O8 := Lib.hid (O8.out.keptIn m11 (fun b e => .inl (U8.out b e)))
  have O7 := Lib.hid (O7.out.keptIn m11 (fun b e => by have := U7.out b e; omega))
  have O5 := Lib.hid (O5.out.keptIn m11 I2.out (.inr (by omega)))
  have P5 := Lib.hid (P5.out.keptIn m11 (.inr (by omega)))
  clear g1 g2 m11 O3
  have g1 := P5.out.cell0
  have g2 := P5.out.cell1
  go_wp2_with fail
  refine (markPath O5.out I2.out L.out.2.1 L.out.2.2 (by omega) (by omega)).mono ?_
  rintro e w12 ⟨rfl, -, m12⟩
  have c12 := m12.below c11 (by omega)
  have O8 := Lib.hid (O8.out.keptIn m12 (fun b e => by have := U8.out b e; omega))
  have O7 := Lib.hid (O7.out.keptIn m12 (fun b e => by have := U7.out b e; omega))
  clear g1 g2 m12 O5 P5
  have hk : decide ((1 : Int) + p.1.length + p.2.length + p'.1.length + p'.2.length < 0) = false := by simp; omega
  go_wp2_with fail
  refine (eqInts (O7.out.ints hcl5) (O8.out.ints hcl5)).mono ?_
  rintro e w13 ⟨rfl, b13⟩
  have c13 := c12.trans (b13.mono c12.size)
  have O8 := Lib.hid (O8.out.below b13)
  have O7 := Lib.hid (O7.out.below b13)
  go_wp2_with fail
  refine (markInts O7.out hcl5 (by omega) (by omega)).mono ?_
  rintro e w14 ⟨rfl, o14, m14⟩
  have c14 := below_mark c13 O7.out c6.size m14
  have O8 := Lib.hid (O8.out.kept m14 (by
    cases e1 : (Value.slice a8 n8 k8).ownBlock with
    | none => exact .inl rfl
    | some b =>
      refine .inr fun e2 => ?_
      have h1 := U8.out b e1
      have h2 := U7.out b e2.symm
      omega))
  have O14 := Lib.hid o14
  clear o14 m14 b13 hk
  go_wp2_with fail
  refine (heldInts (O14.out.ints (by rw [marks_length]; exact hcl5)) (marks_held 1 _) (by omega) (by omega)).mono ?_
  rintro e w14' ⟨rfl, rfl⟩
  rw [marks_length]
  have g1 := (PA.out.below c14).cell0
  have g2 := (PA.out.below c14).cell1
  have g3 := (PB.out.below c14).cell0
  have g4 := (PB.out.below c14).cell1
  go_upto_region 31 with fail
  go_cut [15] (fun s wx => OwnI wx w14.heap.size s cl ∧ Below w14.heap.size w14 wx)
  case first =>
    have d0 : Below w14.heap.size w14 w14.drew := (Below.refl _ _).drew
    have TA := Lib.hid (fun (X : World) (b : Below w14.heap.size w14 X) => toPath (H.out.below (c14.trans (b.mono c14.size))))
    have TB := Lib.hid (fun (X : World) (b : Below w14.heap.size w14 X) => toPath (H'.out.below (c14.trans (b.mono c14.size))))
    have QA := Lib.hid (fun (X : World) (b : Below w14.heap.size w14 X) => And.intro ((PB.out.below c14).below b).cell0 ((PB.out.below c14).below b).cell1)
    go_region_with (first
      | (go_at_call_of 23 (Value.agg #[ua, ua']); refine (TA.out _ d0).mono ?_; rintro e wA ⟨vA, rfl, oA, bA⟩; have dA := d0.trans (bA.mono d0.size); have mA1 := (QA.out _ dA).1; have mA2 := (QA.out _ dA).2)
      | (go_at_call_of 23 (Value.agg #[ub, ub']); refine (TB.out _ dA).mono ?_; rintro e wB ⟨vB, rfl, oB, bB⟩; have dB := dA.trans (bB.mono dA.size))
      | (go_at_call 31; refine (CI.out _ _ _ ((oA.below bB).pathV L.out.1.1 L.out.1.2) (oB.pathV L.out.2.1 L.out.2.2)).mono ?_; rintro e wC ⟨vC, rfl, oC, bC⟩; have dC := dB.trans (bC.mono dB.size)))
    all_goals (go_wp2_with fail; go_meet; exact ⟨oC.mono dB.size, dC⟩)
  case rest =>
  obtain ⟨o15, b15⟩ := hcut
  revert o15 b15
  generalize wc = w15
  intro o15 b15
  have ho15 := o15
  obtain ⟨a15, n15, k15, rfl⟩ := own_is_slice ho15
  have O15 := Lib.hid o15
  have O8 := Lib.hid (O8.out.below b15)
  have O14 := Lib.hid (O14.out.below b15)
  have c15 := c14.trans (b15.mono c14.size)
  clear ho15 o15 g1 g2 g3 g4 b15
  go_wp2_with fail
  refine (eqInts (O15.out.ints hcl5) (O8.out.ints hcl5)).mono ?_
  rintro e w16 ⟨rfl, b16⟩
  have c16 := c15.trans (b16.mono c15.size)
  have O14 := Lib.hid (O14.out.below b16)
  go_wp2_with fail
  refine (heldInts (O14.out.ints (by rw [marks_length]; exact hcl5)) (marks_held 1 _) (by omega) (by omega)).mono ?_
  rintro e w16' ⟨rfl, rfl⟩
  rw [marks_length]
  go_wp2_with fail
  go_ret
  exact ⟨rfl, chain q (cb.trans (c16.mono cb.size))⟩

end Go.Proofs.Ytifiomeiebammaa

namespace Go.Proofs.Ytifiomeiebammaa.fnExactPathClash
open Go.ChangeShapes Go.WideShapes Go.ChangeAt Go.RowKit
open Go.ChangeMaps (open_string shut_string)
set_option linter.unusedVariables false

theorem own : ownKnob Try.prog.godebug = none := by kernel_rfl
theorem laidOut : laidOutB Try.prog = true := by kernel_rfl

set_option maxRecDepth 100000 in
theorem lifted (os : Os) (started : os.Started) (H : Type) (enc : TypeId × Value → H) :
    ReturnsInHanded {} Try.checked os 7 .any (Rows.fnExactPathClashSpec.pre6 enc Try.prog Try.f7 Rows.fnExactPathClashRow.domain false) (Rows.fnExactPathClashSpec.post enc Try.prog Try.f7 false true false false) := by
  refine returnsInHanded_of_change (C := Try.checked) own started (by kernel_rfl) Try.func7
    (ChangeSpec.witness6 (enc := enc) (C := Try.checked) false ⟨#[], #[.int .i64 0, .agg #[.slice none 0 0, .slice none 0 0], .agg #[.slice none 0 0, .slice none 0 0]], []⟩ 8 (by kernel_rfl) (by kernel_rfl) (by kernel_rfl) (by kernel_rfl)) ?_
  intro W base args ds gs before hval0 hW hcnd _
  have hval : ∀ (j : Nat) t v, Try.f7.params[j]? = some t → args[j]? = some v → Value.okWide Try.prog W .any base t v := hval0
  have hW' := hW
  obtain ⟨p, q, hA0, hV, rfl, hfz, hnd⟩ := hW
  have hA : DataW.TrodAll enc Try.prog W 0 (fun _ => true) true Try.f7.params.toList args.toList ds p := hA0
  rw [Try.params7] at hA hval
  obtain ⟨v0, vs0, d0, ds0, p0, q0, hargs, rfl, rfl, h0, r0⟩ := trodAll_cons hA
  obtain ⟨v1, vs1, d1, ds1, p1, q1, rfl, rfl, rfl, h1, r1⟩ := trodAll_cons r0
  obtain ⟨v2, vs2, d2, ds2, p2, q2, rfl, rfl, rfl, h2, r2⟩ := trodAll_cons r1
  obtain ⟨rfl, rfl, rfl⟩ := trodAll_nil r2
  obtain rfl : args = #[v0, v1, v2] := by cases args; simp_all
  obtain ⟨rfl, rfl⟩ := trodVars_none hV
  obtain ⟨a0, rfl, rfl, rfl, w0⟩ := open_int Try.underlying3 (hval 0 3 v0 rfl rfl) h0
  have w1 := open_path (hval 1 34 v1 rfl rfl) h1
  have k1 := h1
  have lt1 : ∀ x ∈ p1, x.block < W.heap.size := by obtain ⟨m, hm⟩ := k1; exact DataW.trod_lt m _ _ _ hm
  have w2 := open_path (hval 2 34 v2 rfl rfl) h2
  have k2 := h2
  have lt2 : ∀ x ∈ p2, x.block < W.heap.size := by obtain ⟨m, hm⟩ := k2; exact DataW.trod_lt m _ _ _ hm
  clear hA0 hval0
  refine (walk_FnExactPathClash a0 v1 v2 W w0 w1 w2).mono fun e W' ⟨he, bel⟩ => ?_
  subst he
  exact ⟨_, rfl, _, _, _, [], _, [], hW', trodAll_mk1 (shut_bool Try.underlying4 _), (trodAll_cons_mk (shut_int Try.underlying3 w0) (trodAll_cons_mk (Below.trod laidOut (by kernel_rfl) (of_decide_eq_true (by kernel_rfl)) k1 bel lt1) (trodAll_cons_mk (Below.trod laidOut (by kernel_rfl) (of_decide_eq_true (by kernel_rfl)) k2 bel lt2) trodAll_mk0))), rfl, bel.frame _, fun h => by cases h⟩

theorem over : Rows.fnExactPathClashRow.holds Try.pinned (OpenSpec.ofChange Rows.fnExactPathClashSpec) :=
  OpenClaim.holds_of_wide 7 Try.f7 rfl rfl rfl rfl rfl rfl rfl ⟨rfl, rfl, rfl, rfl, rfl⟩ rfl rfl rfl rfl rfl (by kernel_rfl) Try.func7 (by kernel_rfl)
    (of_decide_eq_true (by kernel_rfl)) (by unfold Func.isWrapper; first | (rw [if_pos (by decide +kernel)]; kernel_rfl) | (rw [if_neg (by decide +kernel)]; exact ⟨rfl, rfl⟩))
    (fun os started H enc _ => lifted os started H enc)

theorem proved : Rows.FnExactPathClashSaid := over
#print axioms proved
end Go.Proofs.Ytifiomeiebammaa.fnExactPathClash
