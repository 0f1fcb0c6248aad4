/-
  For every input the law 'FnExactSingleLater' returns true, and each of its arguments reads behind the call as it read before. Conditions: none beyond those of the row.
-/
import Derived.Test.YtlcmkocbpnekhaaRows
import Derived.WalkKit
import Derived.ProofKit
import Derived.OpenShut
import Derived.ShutString
import Derived.ChangeOld
import Derived.Below
import Derived.Deep.Matrix
import Derived.Test.YtlcmkocbpnekhaaIo
import Derived.Test.YtlcmkocbpnekhaaSgU
import Derived.Deep.DeepCutAuto
import Derived.Deep.RegionWith
namespace Go.Proofs.Ytlcmkocbpnekhaa
open Go.RowKit

set_option maxRecDepth 100000 in
set_option maxHeartbeats 8000000 in
theorem walk_FnExactSingleLater (v0 : Value) (a1 : Int) (w : World) (w0 : IsSingK w v0) (w1 : (Lit.int .i64 a1).wf = true) :
    Calls Try.prog 9 #[v0, .int .i64 a1] w fun e w' => e = .returned (.bool true) ∧ Below w.heap.size w w' := by
  have _ := w0
  have HB64 := bounds_i64 w1
  obtain ⟨u1, u2, r0, h0, rfl⟩ := w0.agg
  have q := below_alloc w (.cells #[u1, u2, .int .i64 r0, .int .i64 h0] 44)
  have pb := Quad.new w u1 u2 (.int .i64 r0) (.int .i64 h0) 44
  have hk := w0.below q
  obtain ⟨W, hW⟩ : ∃ W, W = w.alloc (.cells #[u1, u2, .int .i64 r0, .int .i64 h0] 44) := ⟨_, rfl⟩
  rw [← hW] at q pb hk
  have HW := Lib.hid hW.symm
  have P := Lib.hid pb
  have K0 := pb.cell0
  have K1 := pb.cell1
  have K2 := pb.cell2
  have K3 := pb.cell3
  clear hW pb w0
  go_enter Try.func9, Try.ntmps9
  go_wp2_with fail
  rw [HW.out]
  refine (szSingK hk (by omega) (by omega)).mono ?_
  rintro e wa ⟨n, rfl, hn1, hn, ba⟩
  rcases Int.lt_or_le n 0 with hneg | hpos
  · have hd : decide (n < 0) = true := decide_eq_true hneg
    clear hn hk
    go_wp2_with fail
    go_ret
    exact ⟨rfl, chain q ba⟩
  have hd : decide (n < 0) = false := by simpa using hpos
  obtain ⟨s, h, f1, f2⟩ := hn hpos
  clear hn hk hn1 hpos K0 K1 K2 K3
  have hl := h.len
  have H := Lib.hid (fun (X : World) (b : Below W.heap.size W X) => toSingle (h.below b))
  have hyl : (laV s a1).A.length ≤ 1048576 ∧ (laV s a1).B.length ≤ 1048576 := by
    unfold laV; split
    · simp only [laG, List.length_map]; exact hl
    · exact ⟨Nat.zero_le _, Nat.zero_le _⟩
  obtain ⟨R, hR⟩ : ∃ x, x = laV s a1 := ⟨_, rfl⟩
  obtain ⟨ok, hok⟩ : ∃ x, x = laB s a1 := ⟨_, rfl⟩
  have SP : ∀ (X : World) (v : Value), SgV X v s → Calls Try.prog 28 #[v, .int .i64 a1] X (MadeSgB X R ok) := by
    intro X v j; rw [hR, hok]; exact specLater j HB64
  have IM : ∀ (X : World) (v : Value), SgV X v s → Calls Try.prog 27 #[v, .int .i64 a1] X (MadeSgB X R ok) := by
    intro X v j; rw [hR, hok]; exact implLater j HB64
  rw [← hR] at hyl
  have SP := Lib.hid SP
  have IM := Lib.hid IM
  have HYL := Lib.hid hyl
  have hya : (R.A.length : Int) ≤ 1048576 := by omega
  have hyb : (R.B.length : Int) ≤ 1048576 := by omega
  have HL := Lib.hid hl
  have hxa : (s.A.length : Int) ≤ 1048576 := by have := hl.1; omega
  have hxb : (s.B.length : Int) ≤ 1048576 := by have := hl.2; omega
  clear hR hok f1 f2 h hyl hl
  have ka := (P.out.below ba).cell0
  have kb := (P.out.below ba).cell1
  have kc := (P.out.below ba).cell2
  have kd := (P.out.below ba).cell3
  go_upto_region 6 with (first
    | (go_at_call 34; refine (H.out _ ba).mono ?_; rintro e w1 ⟨v1', rfl, o1, b1⟩; have c1 := chain ba b1)
    | (go_at_call 28; refine (SP.out _ _ (o1.sgV HL.out.1 HL.out.2)).mono ?_; rintro e w2 ⟨vw, rfl, ow, b2⟩; obtain ⟨wx1, wx2, wx3, wy1, wy2, wy3, rfl⟩ := ow.form; have c2 := chain c1 b2; have z1 := Lib.hid c1.size; clear o1 c1 b1))
  have e4 := below_alloc w2 (.cells #[.slice wx1 wx2 wx3, .slice wy1 wy2 wy3, .int .i64 R.run, .int .i64 R.head] 25)
  have q4 := Quad.new w2 (.slice wx1 wx2 wx3) (.slice wy1 wy2 wy3) (.int .i64 R.run) (.int .i64 R.head) 25
  have s4 : (w2.alloc (.cells #[.slice wx1 wx2 wx3, .slice wy1 wy2 wy3, .int .i64 R.run, .int .i64 R.head] 25)).heap.size = w2.heap.size + 1 := Go.Deep.nblk_alloc _ _
  have ow4 := ow.below e4
  have LW := Lib.hid ow.isIn
  have c4 := chain c2 e4
  have z2 := Lib.hid b2.size
  obtain ⟨W4, hW4⟩ : ∃ X, X = w2.alloc (.cells #[.slice wx1 wx2 wx3, .slice wy1 wy2 wy3, .int .i64 R.run, .int .i64 R.head] 25) := ⟨_, rfl⟩
  rw [← hW4] at e4 q4 s4 ow4 c4 ⊢
  obtain ⟨R1, hR1⟩ : ∃ x, x = R.run := ⟨_, rfl⟩
  obtain ⟨R2, hR2⟩ : ∃ x, x = R.head := ⟨_, rfl⟩
  have RR := Lib.hid (And.intro hR1 hR2)
  rw [← hR1, ← hR2] at q4 ow4 LW
  have Q4 := Lib.hid q4
  have OW := Lib.hid ow4
  have S4 := Lib.hid s4
  have la := (P.out.below c4).cell0
  have lb := (P.out.below c4).cell1
  have lc := (P.out.below c4).cell2
  have ld := (P.out.below c4).cell3
  clear ka kb kc kd hW4 e4 q4 s4 ow4 ow hR1 hR2 b2
  go_upto_region 7 with (go_at_call 34; refine (H.out _ c4).mono ?_; rintro e w3 ⟨v3, rfl, o3, b3⟩; obtain ⟨xa, xn, xc, ya, yn, yc, rfl⟩ := o3.form)
  have c3 := chain c4 b3
  have e6 := below_alloc w3 (.cells #[.slice xa xn xc, .slice ya yn yc, .int .i64 s.run, .int .i64 s.head] 25)
  have q6 := Quad.new w3 (.slice xa xn xc) (.slice ya yn yc) (.int .i64 s.run) (.int .i64 s.head) 25
  have s6 : (w3.alloc (.cells #[.slice xa xn xc, .slice ya yn yc, .int .i64 s.run, .int .i64 s.head] 25)).heap.size = w3.heap.size + 1 := Go.Deep.nblk_alloc _ _
  have IX := Lib.hid o3.isIn
  have ox6 := o3.below e6
  have c6 := chain c3 e6
  have z3 := Lib.hid b3.size
  have ow6 := (OW.out.below b3).below e6
  have q46 := (Q4.out.below b3).below e6
  obtain ⟨W6, hW6⟩ : ∃ X, X = w3.alloc (.cells #[.slice xa xn xc, .slice ya yn yc, .int .i64 s.run, .int .i64 s.head] 25) := ⟨_, rfl⟩
  rw [← hW6] at e6 q6 s6 ox6 c6 ow6 q46 ⊢
  obtain ⟨r1, hr1⟩ : ∃ x, x = s.run := ⟨_, rfl⟩
  obtain ⟨h1, hh1⟩ : ∃ x, x = s.head := ⟨_, rfl⟩
  rw [← hr1, ← hh1] at q6 ox6 IX
  have Q6 := Lib.hid q6
  have OX := Lib.hid ox6
  have OW := Lib.hid ow6
  have Q4 := Lib.hid q46
  have S6 := Lib.hid s6
  have IMX := Lib.hid (IM.out W6 _ (ox6.sgV HL.out.1 HL.out.2))
  have m0 := q6.cell0
  have m1 := q6.cell1
  have m2 := q6.cell2
  have m3 := q6.cell3
  clear la lb lc ld hW6 e6 q6 s6 ox6 ow6 q46 o3 hr1 hh1 b3 c3
  go_upto_region 8 with (go_at_call 27; refine IMX.out.mono ?_; rintro e w4 ⟨vg, rfl, og, b4⟩; obtain ⟨gx1, gx2, gx3, gy1, gy2, gy3, rfl⟩ := og.form)
  have c7' := chain c6 b4
  have e7 := below_alloc w4 (.cells #[.slice gx1 gx2 gx3, .slice gy1 gy2 gy3, .int .i64 R.run, .int .i64 R.head] 25)
  have q7 := Quad.new w4 (.slice gx1 gx2 gx3) (.slice gy1 gy2 gy3) (.int .i64 R.run) (.int .i64 R.head) 25
  have s7 : (w4.alloc (.cells #[.slice gx1 gx2 gx3, .slice gy1 gy2 gy3, .int .i64 R.run, .int .i64 R.head] 25)).heap.size = w4.heap.size + 1 := Go.Deep.nblk_alloc _ _
  have LG := Lib.hid og.isIn
  have og7 := og.below e7
  have c7 := chain c7' e7
  have z4 := Lib.hid b4.size
  have ow7 := (OW.out.below b4).below e7
  have ox7 := (OX.out.below b4).below e7
  have q47 := (Q4.out.below b4).below e7
  have q67 := (Q6.out.below b4).below e7
  obtain ⟨W7, hW7⟩ : ∃ X, X = w4.alloc (.cells #[.slice gx1 gx2 gx3, .slice gy1 gy2 gy3, .int .i64 R.run, .int .i64 R.head] 25) := ⟨_, rfl⟩
  rw [← hW7] at e7 q7 s7 og7 c7 ow7 ox7 q47 q67 ⊢
  rw [← RR.out.1, ← RR.out.2] at q7 og7 LG
  have OG := Lib.hid og7
  have OW := Lib.hid ow7
  have OX := Lib.hid ox7
  have Q4 := Lib.hid q47
  have Q6 := Lib.hid q67
  have Q7 := Lib.hid q7
  have S7 := Lib.hid s7
  clear m0 m1 m2 m3 hW7 e7 q7 s7 og7 ow7 ox7 q47 q67 og b4 c7'
  have EQ1 := Lib.hid (eqSingles2 (OG.out.sgV HYL.out.1 HYL.out.2) (OW.out.sgV HYL.out.1 HYL.out.2))
  have m0 := Q7.out.cell0
  have m1 := Q7.out.cell1
  have m2 := Q7.out.cell2
  have m3 := Q7.out.cell3
  have n0 := Q4.out.cell0
  have n1 := Q4.out.cell1
  have n2 := Q4.out.cell2
  have n3 := Q4.out.cell3
  have t1 : (ok != ok) = false := by simp
  go_upto_region 10 with (go_at_call 35; refine EQ1.out.mono ?_; rintro e w5 ⟨rfl, b5⟩)
  have c5 := chain c7 b5
  have OX := Lib.hid (OX.out.below b5)
  have OW := Lib.hid (OW.out.below b5)
  have OG := Lib.hid (OG.out.below b5)
  have Q4 := Lib.hid (Q4.out.below b5)
  have Q6 := Lib.hid (Q6.out.below b5)
  have Q7 := Lib.hid (Q7.out.below b5)
  have OV5 := Lib.hid (OX.out.sgV HL.out.1 HL.out.2)
  have z5 := Lib.hid b5.size
  clear b5 m0 m1 m2 m3 n0 n1 n2 n3 c7
  go_cut [49] (fun s wx => s = .bool false ∧ Below w5.heap.size w5 wx)
  case first =>
    have PP := Lib.hid (fun (W' : World) (b : Below w5.heap.size w5 W') => Q6.out.below b)
    have QQ := Lib.hid (fun (W' : World) (b : Below w5.heap.size w5 W') => (P.out.below c5).below b)
    have d4 : Below w5.heap.size w5 w5.drew := (Below.refl _ _).drew
    have EQ := Lib.hid (fun (W' : World) (v : Value) (b : Below w5.heap.size w5 W') (j : SgV W' v s) => eqSingles2 (OV5.out.below b) j)
    have TP := Lib.hid (fun (W' : World) (b : Below w5.heap.size w5 W') => H.out _ (chain c5 b))
    have ke := (QQ.out _ (Below.refl _ _)).cell0
    have kf := (QQ.out _ (Below.refl _ _)).cell1
    have kg := (QQ.out _ (Below.refl _ _)).cell2
    have kh := (QQ.out _ (Below.refl _ _)).cell3
    have le := (PP.out _ (Below.refl _ _)).cell0
    have lf := (PP.out _ (Below.refl _ _)).cell1
    have lg := (PP.out _ (Below.refl _ _)).cell2
    have lh := (PP.out _ (Below.refl _ _)).cell3
    go_region_with (first
      | (go_at_call 34; refine (TP.out _ d4).mono ?_; rintro e w6 ⟨v5, rfl, o5, b6⟩; have c6' := d4.trans (b6.mono d4.size); have j5 := o5.sgV HL.out.1 HL.out.2; have m1 := (PP.out _ c6').cell0; have m2 := (PP.out _ c6').cell1; have m3 := (PP.out _ c6').cell2; have m4 := (PP.out _ c6').cell3; clear o5 b6)
      | (go_at_call 35; refine (EQ.out _ _ c6' j5).mono ?_; rintro e w7 ⟨rfl, b7⟩))
    all_goals (go_wp2_with fail; go_meet; exact ⟨rfl, c6'.trans (b7.mono c6'.size)⟩)
  case rest =>
  obtain ⟨rfl, b8⟩ := hcut
  rename_i w8
  have c8 := chain c5 b8
  have OX := Lib.hid (OX.out.below b8)
  have OW := Lib.hid (OW.out.below b8)
  have OG := Lib.hid (OG.out.below b8)
  have Q4 := Lib.hid (Q4.out.below b8)
  have Q6 := Lib.hid (Q6.out.below b8)
  have Q7 := Lib.hid (Q7.out.below b8)
  have z8 := Lib.hid b8.size
  have le := Q6.out.cell0
  have lf := Q6.out.cell1
  have lg := Q6.out.cell2
  have lh := Q6.out.cell3
  clear b8
  have MK := Lib.hid (markSingle OX.out IX.out HL.out.1 HL.out.2 (by omega : (0 : Int) ≤ 1) (by omega))
  go_upto_region 14 with (go_at_call 36; refine MK.out.mono ?_; rintro e w9 ⟨rfl, om9, g9⟩)
  have c9 := g9.below c8 (by have := c4.size; omega)
  have zz := And.intro S4.out (And.intro S6.out S7.out)
  have zy := And.intro z3.out z4.out
  have OW := Lib.hid (OW.out.keptIn g9 LW.out (.inl (by omega)))
  have OG := Lib.hid (OG.out.keptIn g9 LG.out (.inr (by omega)))
  have Q4 := Lib.hid (Q4.out.of (g9.block _ Q4.out.lt (.inl (by omega))))
  have Q7 := Lib.hid (Q7.out.of (g9.block _ Q7.out.lt (.inr (by omega))))
  have P9 : Quad w9 w.heap.size u1 u2 (.int .i64 r0) (.int .i64 h0) 44 := (P.out.below c8).of (g9.block _ (P.out.below c8).lt (.inl (by have := P.out.lt; have := c4.size; omega)))
  have PQ := Lib.hid P9
  have EQ2 := Lib.hid (eqSingles2 (OG.out.sgV HYL.out.1 HYL.out.2) (OW.out.sgV HYL.out.1 HYL.out.2))
  have hk1 : decide (1 + (s.A.length : Int) + (s.B.length : Int) < 0) = false := by simp; omega
  have m0 := Q7.out.cell0
  have m1 := Q7.out.cell1
  have m2 := Q7.out.cell2
  have m3 := Q7.out.cell3
  have n0 := Q4.out.cell0
  have n1 := Q4.out.cell1
  have n2 := Q4.out.cell2
  have n3 := Q4.out.cell3
  clear om9 g9 le lf lg lh P9 zz zy
  go_upto_region 16 with (go_at_call 35; refine EQ2.out.mono ?_; rintro e w10 ⟨rfl, b10⟩)
  have c10 := chain c9 b10
  have OW := Lib.hid (OW.out.below b10)
  have OG := Lib.hid (OG.out.below b10)
  have PQ := Lib.hid (PQ.out.below b10)
  have Q4 := Lib.hid (Q4.out.below b10)
  have Q7 := Lib.hid (Q7.out.below b10)
  clear b10 hk1 m0 m1 m2 m3 n0 n1 n2 n3
  have m0 := Q7.out.cell0
  have m1 := Q7.out.cell1
  have m2 := Q7.out.cell2
  have m3 := Q7.out.cell3
  have MK2 := Lib.hid (markSingle OG.out LG.out HYL.out.1 HYL.out.2 (by omega : (0 : Int) ≤ 1) (by omega))
  go_upto_region 18 with (go_at_call 36; refine MK2.out.mono ?_; rintro e w11 ⟨rfl, om11, g11⟩)
  have zz := And.intro S4.out (And.intro S6.out S7.out)
  have zy := And.intro z3.out z4.out
  have c11 := g11.below c10 (by have := c6.size; omega)
  have OW := Lib.hid (OW.out.keptIn g11 LW.out (.inl (by omega)))
  have PQ := Lib.hid (PQ.out.of (g11.block _ PQ.out.lt (.inl (by have := P.out.lt; have := c6.size; omega))))
  have Q4 := Lib.hid (Q4.out.of (g11.block _ Q4.out.lt (.inl (by omega))))
  have Q7 := Lib.hid (Q7.out.of (g11.block _ Q7.out.lt (.inr (by omega))))
  rw [← RR.out.1, ← RR.out.2] at om11
  have OM := Lib.hid om11
  clear om11 g11 zz zy m0 m1 m2 m3
  have MHA : ∀ i, i < (marks 1 R.A.length).length → (marks 1 R.A.length).getD i 0 = 1 + i := marks_held 1 _
  have MHB : ∀ i, i < (marks (1 + (R.A.length : Int)) R.B.length).length → (marks (1 + (R.A.length : Int)) R.B.length).getD i 0 = 1 + (marks 1 R.A.length).length + i := fun i hi => by rw [marks_length]; exact marks_held _ _ i hi
  have HELD := Lib.hid (fun (X : World) (u : Value) (j : SgV X u ⟨marks 1 R.A.length, marks (1 + (R.A.length : Int)) R.B.length, R1, R2⟩) => heldSingle (k := 1) j MHA MHB (by omega) (by omega))
  have HMA := Lib.hid (marks_length 1 R.A.length)
  have HMB := Lib.hid (marks_length (1 + (R.A.length : Int)) R.B.length)
  have m0 := Q7.out.cell0
  have m1 := Q7.out.cell1
  have m2 := Q7.out.cell2
  have m3 := Q7.out.cell3
  have kk1 : decide (1 + (R.A.length : Int) + (R.B.length : Int) < 0) = false := by simp; omega
  have kk2 : (1 + (R.A.length : Int) + (R.B.length : Int) != 1 + (R.A.length : Int) + (R.B.length : Int)) = false := by simp
  have OMV := Lib.hid (OM.out.sgV (by simp only [marks_length]; exact HYL.out.1) (by simp only [marks_length]; exact HYL.out.2))
  obtain ⟨N, hN⟩ : ∃ x, x = 1 + (R.A.length : Int) + (R.B.length : Int) := ⟨_, rfl⟩
  have HE := Lib.hid (fun (X : World) (u : Value) (j : SgV X u ⟨marks 1 R.A.length, marks (1 + (R.A.length : Int)) R.B.length, R1, R2⟩) => show Calls Try.prog 37 #[u, .int .i64 1] X fun e w' => e = .returned (.int .i64 N) ∧ Below X.heap.size X w' from by
    have := HELD.out X u j
    simp only [HMA.out, HMB.out] at this
    rw [hN]; exact this)
  rw [← hN] at kk1 kk2 ⊢
  have HN := Lib.hid hN
  clear MHA MHB hN
  go_upto_region 20 with (go_at_call 37; refine (HE.out _ _ OMV.out).mono ?_; rintro e w12 ⟨rfl, b12⟩)
  have c12 := chain c11 b12
  have OW := Lib.hid (OW.out.below b12)
  have PQ := Lib.hid (PQ.out.below b12)
  have Q4 := Lib.hid (Q4.out.below b12)
  have Q7 := Lib.hid (Q7.out.below b12)
  have OM := Lib.hid (OM.out.below b12)
  have pq0 := PQ.out.cell0
  have pq1 := PQ.out.cell1
  have pq2 := PQ.out.cell2
  have pq3 := PQ.out.cell3
  clear b12 m0 m1 m2 m3
  go_upto_region 25 with (first
    | (go_at_call 34; refine (H.out _ c12).mono ?_; rintro e w13 ⟨vy, rfl, oy, b13⟩; have c13 := chain c12 b13)
    | (go_at_call 27; refine (IM.out _ _ (oy.sgV HL.out.1 HL.out.2)).mono ?_; rintro e w14 ⟨vh, rfl, oh, b14⟩; obtain ⟨hx1, hx2, hx3, hy1, hy2, hy3, rfl⟩ := oh.form))
  have c14 := chain c13 b14
  have e12 := below_alloc w14 (.cells #[.slice hx1 hx2 hx3, .slice hy1 hy2 hy3, .int .i64 R.run, .int .i64 R.head] 25)
  have q12 := Quad.new w14 (.slice hx1 hx2 hx3) (.slice hy1 hy2 hy3) (.int .i64 R.run) (.int .i64 R.head) 25
  have c15 := chain c14 e12
  have ow15 := ((OW.out.below b13).below b14).below e12
  have oh15 := oh.below e12
  have q415 := ((Q4.out.below b13).below b14).below e12
  have q715 := ((Q7.out.below b13).below b14).below e12
  have om15 := ((OM.out.below b13).below b14).below e12
  obtain ⟨W12, hW12⟩ : ∃ X, X = w14.alloc (.cells #[.slice hx1 hx2 hx3, .slice hy1 hy2 hy3, .int .i64 R.run, .int .i64 R.head] 25) := ⟨_, rfl⟩
  rw [← hW12] at e12 q12 c15 ow15 oh15 q415 q715 om15 ⊢
  rw [← RR.out.1, ← RR.out.2] at q12 oh15
  have EQ3 := Lib.hid (eqSingles2 (oh15.sgV HYL.out.1 HYL.out.2) (ow15.sgV HYL.out.1 HYL.out.2))
  have Q7 := Lib.hid q715
  have OM := Lib.hid om15
  have m0 := q12.cell0
  have m1 := q12.cell1
  have m2 := q12.cell2
  have m3 := q12.cell3
  have n0 := q415.cell0
  have n1 := q415.cell1
  have n2 := q415.cell2
  have n3 := q415.cell3
  clear hW12 e12 q12 ow15 oh15 q415 q715 om15 oh oy b13 b14 pq0 pq1 pq2 pq3
  go_upto_region 28 with (go_at_call 35; refine EQ3.out.mono ?_; rintro e w15 ⟨rfl, b15⟩)
  have c16 := chain c15 b15
  have q7 := Q7.out.below b15
  have OMV2 := Lib.hid ((OM.out.below b15).sgV (by simp only [marks_length]; exact HYL.out.1) (by simp only [marks_length]; exact HYL.out.2))
  clear m0 m1 m2 m3 n0 n1 n2 n3 b15
  have m0 := q7.cell0
  have m1 := q7.cell1
  have m2 := q7.cell2
  have m3 := q7.cell3
  clear q7
  go_wp2_with (go_at_call 37; refine (HE.out _ _ OMV2.out).mono ?_; rintro e w16 ⟨rfl, b16⟩)
  go_ret
  exact ⟨rfl, chain q (chain c16 b16)⟩

end Go.Proofs.Ytlcmkocbpnekhaa

namespace Go.Proofs.Ytlcmkocbpnekhaa.fnExactSingleLater
open Go.ChangeShapes Go.WideShapes Go.ChangeAt Go.RowKit
open Go.ChangeMaps (open_string shut_string)
set_option linter.unusedVariables false

theorem own : ownKnob Try.prog.godebug = none := by kernel_rfl
theorem laidOut : laidOutB Try.prog = true := by kernel_rfl

set_option maxRecDepth 100000 in
theorem lifted (os : Os) (started : os.Started) (H : Type) (enc : TypeId × Value → H) :
    ReturnsInHanded {} Try.checked os 9 .any (Rows.fnExactSingleLaterSpec.pre6 enc Try.prog Try.f9 Rows.fnExactSingleLaterRow.domain false) (Rows.fnExactSingleLaterSpec.post enc Try.prog Try.f9 false true false false) := by
  refine returnsInHanded_of_change (C := Try.checked) own started (by kernel_rfl) Try.func9
    (ChangeSpec.witness6 (enc := enc) (C := Try.checked) false ⟨#[], #[.agg #[.slice none 0 0, .slice none 0 0, .int .i64 0, .int .i64 0], .int .i64 0], []⟩ 8 (by kernel_rfl) (by kernel_rfl) (by kernel_rfl) (by kernel_rfl)) ?_
  intro W base args ds gs before hval0 hW hcnd _
  have hval : ∀ (j : Nat) t v, Try.f9.params[j]? = some t → args[j]? = some v → Value.okWide Try.prog W .any base t v := hval0
  have hW' := hW
  obtain ⟨p, q, hA0, hV, rfl, hfz, hnd⟩ := hW
  have hA : DataW.TrodAll enc Try.prog W 0 (fun _ => true) true Try.f9.params.toList args.toList ds p := hA0
  rw [Try.params9] at hA hval
  obtain ⟨v0, vs0, d0, ds0, p0, q0, hargs, rfl, rfl, h0, r0⟩ := trodAll_cons hA
  obtain ⟨v1, vs1, d1, ds1, p1, q1, rfl, rfl, rfl, h1, r1⟩ := trodAll_cons r0
  obtain ⟨rfl, rfl, rfl⟩ := trodAll_nil r1
  obtain rfl : args = #[v0, v1] := by cases args; simp_all
  obtain ⟨rfl, rfl⟩ := trodVars_none hV
  have w0 := open_single (hval 0 44 v0 rfl rfl) h0
  have k0 := h0
  have lt0 : ∀ x ∈ p0, x.block < W.heap.size := by obtain ⟨m, hm⟩ := k0; exact DataW.trod_lt m _ _ _ hm
  obtain ⟨a1, rfl, rfl, rfl, w1⟩ := open_int Try.underlying3 (hval 1 3 v1 rfl rfl) h1
  clear hA0 hval0
  refine (walk_FnExactSingleLater v0 a1 W w0 w1).mono fun e W' ⟨he, bel⟩ => ?_
  subst he
  exact ⟨_, rfl, _, _, _, [], _, [], hW', trodAll_mk1 (shut_bool Try.underlying4 _), (trodAll_cons_mk (Below.trod laidOut (by kernel_rfl) (of_decide_eq_true (by kernel_rfl)) k0 bel lt0) (trodAll_cons_mk (shut_int Try.underlying3 w1) trodAll_mk0)), rfl, bel.frame _, fun h => by cases h⟩

theorem closed : joinedFacts Try.checked.prog 9 Try.f9 Rows.fnExactSingleLaterSpec Rows.fnExactSingleLaterRow = true := by
  unfold joinedFacts
  simp only [Bool.and_eq_true]
  repeat' (refine And.intro ?_ ?_)
  all_goals first
    | with_reducible exact may_enter
    | (rw [lifts_final]; kernel_rfl)
    | (rw [make_is]; kernel_rfl)
    | kernel_rfl

theorem over : Rows.fnExactSingleLaterRow.holds Try.pinned (OpenSpec.ofChange Rows.fnExactSingleLaterSpec) :=
  OpenClaim.holds_of_wide 9 Try.f9 rfl rfl rfl rfl rfl rfl rfl ⟨rfl, rfl, rfl, rfl, rfl⟩ rfl rfl rfl rfl rfl (by kernel_rfl) Try.func9 closed
    (of_decide_eq_true (by kernel_rfl)) (by unfold Func.isWrapper; first | (rw [if_pos (by decide +kernel)]; kernel_rfl) | (rw [if_neg (by decide +kernel)]; exact ⟨rfl, rfl⟩))
    (fun os started H enc _ => lifted os started H enc)

theorem proved : Rows.FnExactSingleLaterSaid := over
#print axioms proved
end Go.Proofs.Ytlcmkocbpnekhaa.fnExactSingleLater
