/-
  For every input the law 'FnSingleLater' returns true, and each of its arguments reads behind the call as it read before. Conditions: none beyond those of the row.
-/
import Derived.Test.YtlcmkocbpnekhaaRows
import Derived.WalkKit
import Derived.ProofKit
import Derived.OpenShut
import Derived.ShutString
import Derived.ChangeOld
import Derived.Below
import Derived.Deep.Matrix
import Derived.Test.YtlcmkocbpnekhaaIo
import Derived.Test.YtlcmkocbpnekhaaDrN
import Derived.Test.YtlcmkocbpnekhaaSgU
import Derived.Test.YtlcmkocbpnekhaaSgX
import Derived.Test.YtlcmkocbpnekhaaSgG
import Derived.Test.YtlcmkocbpnekhaaSgO
import Derived.Deep.RegionHeld3
namespace Go.Proofs.Ytlcmkocbpnekhaa
open Go.RowKit

theorem soon_range {s : Sg} (h : sgB s = true) : 0 ≤ soonV s ∧ soonV s ≤ 3300 := by
  obtain ⟨o, ho⟩ := sg_has h
  obtain ⟨a, b, x, hx, e⟩ := soon_le ho
  refine ⟨a, ?_⟩
  rw [← e]
  rcases Nat.eq_zero_or_pos x.size with c | c
  · rw [endV_nil hx c]; omega
  · obtain ⟨n, hn⟩ : ∃ n, x.size = n + 1 := ⟨x.size - 1, by omega⟩
    rw [endV_yes hx hn]
    have := (stA_nonneg hx (k := n) (by omega)).2
    have := (sgB_of h).run2
    omega

set_option maxRecDepth 100000 in
set_option maxHeartbeats 8000000 in
theorem walk_FnSingleLater (a0 : Option Addr) (len0 cap0 : Nat) (z0 : List Int) (w : World) (w0 : IsRowK .u8 w a0 len0 cap0 z0) :
    Calls Try.prog 6 #[.slice a0 len0 cap0] w fun e w' => e = .returned (.bool true) ∧ Below w.heap.size w w' := by
  rcases Nat.lt_or_ge 1048576 len0 with hbig | hsm
  · have hb : (1048576 : Int) < (len0 : Int) := by omega
    go_enter Try.func6, Try.ntmps6
    go_wp2_with fail
    go_ret
    exact ⟨rfl, Below.refl _ _⟩
  have hb : (len0 : Int) ≤ 1048576 := by omega
  have DN := Lib.hid (drawSLater w0 hsm)
  clear w0
  go_enter Try.func6, Try.ntmps6
  go_upto_region 4 with (go_at_call 26; refine DN.out.mono ?_; rintro e wA ⟨v, s, k, rfl, os, ss, hk64, bA⟩; obtain ⟨a1, n1, c1, a2, n2, c2, rfl⟩ := os.form)
  have qB0 := Quad.new wA (.slice a1 n1 c1) (.slice a2 n2 c2) (.int .i64 s.run) (.int .i64 s.head) 25
  have bB := below_alloc wA (.cells #[.slice a1 n1 c1, .slice a2 n2 c2, .int .i64 s.run, .int .i64 s.head] 25)
  have sv := (os.sgV (by have := ss.la; omega) (by have := ss.lb; omega)).below bB
  obtain ⟨wB, hwB⟩ : ∃ X, X = wA.alloc (.cells #[.slice a1 n1 c1, .slice a2 n2 c2, .int .i64 s.run, .int .i64 s.head] 25) := ⟨_, rfl⟩
  rw [← hwB] at qB0 bB sv ⊢
  have BB := Lib.hid (bA.trans (bB.mono bA.size))
  have QB := Lib.hid qB0
  have SV := Lib.hid sv
  have IT := Lib.hid (fun (X : World) (b : Below wB.heap.size wB X) => implLater (sv.below b) hk64)
  have ST := Lib.hid (fun (X : World) (b : Below wB.heap.size wB X) => specLater (sv.below b) hk64)
  have IB := Lib.hid (fun (X : World) (b : Below wB.heap.size wB X) => implBest (sv.below b))
  have IS := Lib.hid (fun (X : World) (b : Below wB.heap.size wB X) => implSoon (sv.below b))
  have IM := Lib.hid (fun (X : World) (b : Below wB.heap.size wB X) => implMany (sv.below b))
  have IW := Lib.hid (fun (X : World) (b : Below wB.heap.size wB X) (o : ByteArray) (ho : o.size ≤ 12) => implWait (S := o) (sv.below b) (by omega))
  have RL : (laV s k).A.length ≤ 1048576 ∧ (laV s k).B.length ≤ 1048576 := by
    have := ss.la
    have := ss.lb
    unfold laV; split
    · simp only [laG, List.length_map]; omega
    · exact ⟨Nat.zero_le _, Nat.zero_le _⟩
  obtain ⟨R, hR⟩ : ∃ x, x = laV s k := ⟨_, rfl⟩
  obtain ⟨ok, hok⟩ : ∃ x, x = laB s k := ⟨_, rfl⟩
  rw [← hR, ← hok] at IT ST
  rw [← hR] at RL
  have HRL := Lib.hid RL
  have HR := Lib.hid hR
  have HOK := Lib.hid hok.symm
  have k0 := QB.out.cell0
  have k1 := QB.out.cell1
  have k2 := QB.out.cell2
  have k3 := QB.out.cell3
  clear hR hok RL hwB qB0 bB sv os ss bA hk64
  go_upto_region 5 with (go_at_call 27; refine (IT.out _ (below_self _)).mono ?_; rintro e wC ⟨vg, rfl, og, bC⟩; obtain ⟨gx1, gx2, gx3, gy1, gy2, gy3, rfl⟩ := og.form)
  have q4 := Quad.new wC (.slice gx1 gx2 gx3) (.slice gy1 gy2 gy3) (.int .i64 R.run) (.int .i64 R.head) 25
  have b4 := below_alloc wC (.cells #[.slice gx1 gx2 gx3, .slice gy1 gy2 gy3, .int .i64 R.run, .int .i64 R.head] 25)
  have sg4 := (og.sgV HRL.out.1 HRL.out.2).below b4
  obtain ⟨wD, hwD⟩ : ∃ X, X = wC.alloc (.cells #[.slice gx1 gx2 gx3, .slice gy1 gy2 gy3, .int .i64 R.run, .int .i64 R.head] 25) := ⟨_, rfl⟩
  rw [← hwD] at q4 b4 sg4 ⊢
  have BD := Lib.hid (bC.trans (b4.mono bC.size))
  have Q4 := Lib.hid q4
  have S4 := Lib.hid sg4
  have l0 := (QB.out.below BD.out).cell0
  have l1 := (QB.out.below BD.out).cell1
  have l2 := (QB.out.below BD.out).cell2
  have l3 := (QB.out.below BD.out).cell3
  clear k0 k1 k2 k3 hwD q4 b4 sg4 og bC
  go_upto_region 6 with (go_at_call 28; refine (ST.out _ BD.out).mono ?_; rintro e wE ⟨vw, rfl, ow, bE⟩; obtain ⟨wx1, wx2, wx3, wy1, wy2, wy3, rfl⟩ := ow.form)
  have q6 := Quad.new wE (.slice wx1 wx2 wx3) (.slice wy1 wy2 wy3) (.int .i64 R.run) (.int .i64 R.head) 25
  have b6 := below_alloc wE (.cells #[.slice wx1 wx2 wx3, .slice wy1 wy2 wy3, .int .i64 R.run, .int .i64 R.head] 25)
  have sg6 := (ow.sgV HRL.out.1 HRL.out.2).below b6
  obtain ⟨wF, hwF⟩ : ∃ X, X = wE.alloc (.cells #[.slice wx1 wx2 wx3, .slice wy1 wy2 wy3, .int .i64 R.run, .int .i64 R.head] 25) := ⟨_, rfl⟩
  rw [← hwF] at q6 b6 sg6 ⊢
  have DF := Lib.hid (bE.trans (b6.mono bE.size))
  have BF := Lib.hid (BD.out.trans (DF.out.mono BD.out.size))
  have SG4 := Lib.hid (S4.out.below DF.out)
  have Q4F := Lib.hid (Q4.out.below DF.out)
  have SM := Lib.hid (sameSingles SG4.out sg6)
  have SM2 := Lib.hid (fun (X : World) (b : Below wF.heap.size wF X) => sameSingles (SG4.out.below b) (sg6.below b))
  have Q6F := Lib.hid q6
  have m0 := Q4F.out.cell0
  have m1 := Q4F.out.cell1
  have m2 := Q4F.out.cell2
  have m3 := Q4F.out.cell3
  have n0 := q6.cell0
  have n1 := q6.cell1
  have n2 := q6.cell2
  have n3 := q6.cell3
  clear l0 l1 l2 l3 hwF q6 b6 sg6 ow bE BD DF S4 Q4 IT ST
  cases ok
  · go_wp2_with fail
    refine SM.out.mono ?_
    rintro e wG ⟨rfl, bG⟩
    have m0' := (Q4F.out.below bG).cell0
    have m1' := (Q4F.out.below bG).cell1
    have m2' := (Q4F.out.below bG).cell2
    have m3' := (Q4F.out.below bG).cell3
    have n0' := (Q6F.out.below bG).cell0
    have n1' := (Q6F.out.below bG).cell1
    have n2' := (Q6F.out.below bG).cell2
    have n3' := (Q6F.out.below bG).cell3
    have SM3 := Lib.hid (SM2.out _ bG)
    have BG := Lib.hid (BF.out.trans (bG.mono BF.out.size))
    clear m0 m1 m2 m3 n0 n1 n2 n3 bG
    go_wp2_with fail
    refine SM3.out.mono ?_
    rintro e wH ⟨rfl, bH⟩
    go_wp2_with fail
    go_ret
    exact ⟨rfl, BB.out.trans ((BG.out.trans (bH.mono BG.out.size)).mono BB.out.size)⟩
  have HLB := Lib.hid (show (-2000 ≤ k ∧ k ≤ 2000) ∧ sgB s = true ∧ sgB (laG s k) = true from by have q := HOK.out; unfold laB at q; simp only [Bool.and_eq_true, decide_eq_true_eq] at q; exact ⟨q.1.1, q.1.2, q.2⟩)
  have HS := Lib.hid HLB.out.2.1
  have HS2 := Lib.hid HLB.out.2.2
  have LS := Lib.hid (show s.A.length ≤ 6 ∧ s.B.length ≤ 6 from ⟨(sgB_of HS.out).lenA, (sgB_of HS.out).lenB⟩)
  obtain rfl : R = laG s k := by rw [HR.out]; unfold laV; rw [HOK.out]; rfl
  go_upto_region 8 with (go_at_call 22; refine SM.out.mono ?_; rintro e wG ⟨rfl, bG⟩)
  have BG := Lib.hid (BF.out.trans (bG.mono BF.out.size))
  have SGG := Lib.hid (SG4.out.below bG)
  have QG := Lib.hid (Q4F.out.below bG)
  have QBG := Lib.hid (QB.out.below BG.out)
  have IT2 := Lib.hid (show Calls Try.prog 27 #[_, .int .i64 (-k)] wG (MadeSgB wG s true) from by
    have e0 : laG (laG s k) (-k) = s := by have := laG_back s k; rw [Int.zero_sub] at this; exact this
    have e1 : laB (laG s k) (-k) = true := by unfold laB; rw [e0, HS.out, HS2.out, decide_eq_true (by have := HLB.out.1; omega)]; rfl
    have q := implLater (k := -k) SGG.out (by have := HLB.out.1; omega)
    rw [e1, show laV (laG s k) (-k) = s by unfold laV; rw [e1]; exact e0] at q
    exact q)
  have BZ := Lib.hid (BB.out.trans (BG.out.mono BB.out.size))
  clear m0 m1 m2 m3 n0 n1 n2 n3 bG SM SM2 Q6F
  have m0 := QG.out.cell0
  have m1 := QG.out.cell1
  have m2 := QG.out.cell2
  have m3 := QG.out.cell3
  have hn1 : wrap64 (-k) = -k := IntWalk.wrap64_in _ (by have := HLB.out.1; omega)
  have hn2 : IntKind.i64.wrap (-k) = -k := IntWalk.i64_in _ (by have := HLB.out.1; omega)
  go_upto_region 9 with (go_at_call 27; refine IT2.out.mono ?_; rintro e wH ⟨vx, rfl, ox, bH⟩; obtain ⟨hx1, hx2, hx3, hy1, hy2, hy3, rfl⟩ := ox.form)
  have q8 := Quad.new wH (.slice hx1 hx2 hx3) (.slice hy1 hy2 hy3) (.int .i64 s.run) (.int .i64 s.head) 25
  have b8 := below_alloc wH (.cells #[.slice hx1 hx2 hx3, .slice hy1 hy2 hy3, .int .i64 s.run, .int .i64 s.head] 25)
  have sg8 := (ox.sgV (by have := LS.out; omega) (by have := LS.out; omega)).below b8
  obtain ⟨wI, hwI⟩ : ∃ X, X = wH.alloc (.cells #[.slice hx1 hx2 hx3, .slice hy1 hy2 hy3, .int .i64 s.run, .int .i64 s.head] 25) := ⟨_, rfl⟩
  rw [← hwI] at q8 b8 sg8 ⊢
  have GI := Lib.hid (bH.trans (b8.mono bH.size))
  have BI := Lib.hid (BG.out.trans (GI.out.mono BG.out.size))
  have Q8 := Lib.hid q8
  have S8 := Lib.hid sg8
  have QI := Lib.hid (QG.out.below GI.out)
  have QBI := Lib.hid (QB.out.below BI.out)
  have SGI := Lib.hid (SGG.out.below GI.out)
  clear m0 m1 m2 m3 hwI q8 b8 sg8 ox bH hn1 hn2
  have IB1 := IB.out _ BI.out
  rw [HS.out] at IB1
  obtain ⟨O, hO⟩ : ∃ x, x = bestV s := ⟨_, rfl⟩
  rw [← hO] at IB1
  have IB1 := Lib.hid IB1
  have OZ : O.size ≤ 12 := by rw [hO, best_size HS.out]; have := LS.out; omega
  have IB2 := Lib.hid (fun (X : World) (b : Below wI.heap.size wI X) => implBest (SGI.out.below b))
  have IB3 := IB2.out
  rw [HS2.out] at IB3
  obtain ⟨O2, hO2⟩ : ∃ x, x = bestV (laG s k) := ⟨_, rfl⟩
  rw [← hO2] at IB3
  have IB3 := Lib.hid IB3
  have OZ2 : O2.size ≤ 12 := by rw [hO2, best_size HS2.out]; have := LS.out; simp only [laG, List.length_map]; omega
  have m0 := QBI.out.cell0
  have m1 := QBI.out.cell1
  have m2 := QBI.out.cell2
  have m3 := QBI.out.cell3
  have HO := Lib.hid (And.intro hO hO2)
  have HZ := Lib.hid (And.intro OZ OZ2)
  clear hO hO2 OZ OZ2
  go_upto_region 10 with (go_at_call 23; refine IB1.out.mono ?_; rintro e wJ ⟨rfl, bJ⟩)
  have n0 := (QI.out.below bJ).cell0
  have n1 := (QI.out.below bJ).cell1
  have n2 := (QI.out.below bJ).cell2
  have n3 := (QI.out.below bJ).cell3
  have IJ := Lib.hid bJ
  clear m0 m1 m2 m3 bJ
  go_upto_region 11 with (go_at_call 23; refine (IB3.out _ IJ.out).mono ?_; rintro e wK ⟨rfl, bK⟩)
  have IK := Lib.hid (IJ.out.trans (bK.mono IJ.out.size))
  clear n0 n1 n2 n3 bK
  have PK := QBI.out.below IK.out
  have PO := QI.out.below IK.out
  have P8 := Q8.out.below IK.out
  have c0 := PK.cell0
  have c1' := PK.cell1
  have c2' := PK.cell2
  have c3 := PK.cell3
  have d0 := PO.cell0
  have d1 := PO.cell1
  have d2 := PO.cell2
  have d3 := PO.cell3
  have e0 := P8.cell0
  have e1 := P8.cell1
  have e2 := P8.cell2
  have e3 := P8.cell3
  have F0 := fun d os => cell_regrown c0 d os
  have F1 := fun d os => cell_regrown c1' d os
  have F2 := fun d os => cell_regrown c2' d os
  have F3 := fun d os => cell_regrown c3 d os
  have G0 := fun d os => cell_regrown d0 d os
  have G1 := fun d os => cell_regrown d1 d os
  have G2 := fun d os => cell_regrown d2 d os
  have G3 := fun d os => cell_regrown d3 d os
  have H0 := fun d os => cell_regrown e0 d os
  have H1 := fun d os => cell_regrown e1 d os
  have H2 := fun d os => cell_regrown e2 d os
  have H3 := fun d os => cell_regrown e3 d os
  have VS := fun (X : World) (b : Below wK.heap.size wK X) => SV.out.below (BI.out.trans ((IK.out.trans (b.mono IK.out.size)).mono BI.out.size))
  have VO := fun (X : World) (b : Below wK.heap.size wK X) => SGI.out.below (IK.out.trans (b.mono IK.out.size))
  have VX := fun (X : World) (b : Below wK.heap.size wK X) => S8.out.below (IK.out.trans (b.mono IK.out.size))
  have SI := fun (X : World) (b : Below wK.heap.size wK X) => implSoon (VS X b)
  have SO := fun (X : World) (b : Below wK.heap.size wK X) => implSoon (VO X b)
  have OE : O2 = O := by rw [HO.out.1, HO.out.2]; exact laG_best HS.out HS2.out
  have OOK := (best_le (sg_has HS.out).choose_spec).2.2
  have WE : waitV (laG s k) O = waitV s O := by rw [HO.out.1]; exact laG_wait OOK HS2.out
  subst OE
  have WI := fun (X : World) (b : Below wK.heap.size wK X) => implWait (S := O2) (VS X b) (by have := HZ.out; omega)
  have WO := fun (X : World) (b : Below wK.heap.size wK X) => implWait (S := O2) (VO X b) (by have := HZ.out; omega)
  rw [WE] at WO
  have SX := fun (X : World) (b : Below wK.heap.size wK X) => sameSingles (VX X b) (VS X b)
  have OS : O2.size = s.A.length + s.B.length := by rw [HO.out.1]; exact best_size HS.out
  have SD : (0 < O2.size ∧ soonV (laG s k) - soonV s = k) ∨ (O2.size = 0 ∧ soonV (laG s k) - soonV s = 0) := by
    rcases Nat.eq_zero_or_pos (s.A.length + s.B.length) with c | c
    · have := laG_soon0 HS.out HS2.out c; right; omega
    · have := laG_soon HS.out HS2.out c; left; omega
  have SB1 := soon_range HS.out
  have SB2 := soon_range HS2.out
  obtain ⟨s1, hs1⟩ : ∃ x, x = soonV s := ⟨_, rfl⟩
  obtain ⟨s2, hs2⟩ : ∃ x, x = soonV (laG s k) := ⟨_, rfl⟩
  obtain ⟨wt, hwt⟩ : ∃ x, x = waitV s O2 := ⟨_, rfl⟩
  rw [← hs1] at SI SD SB1
  rw [← hs2] at SO SD SB2
  rw [← hwt] at WI WO
  have R3 := Lib.hid (fun (d : Nat) (os : Array Obj) => Calls.regrown_of (SI _ (below_regrown wK d os)))
  have R4 := Lib.hid (fun (d : Nat) (os : Array Obj) => Calls.regrown_of (SO _ (below_regrown wK d os)))
  have hw : IntKind.i64.wrap (s2 - s1) = s2 - s1 := IntWalk.i64_in _ (by omega)
  have WI := Lib.hid WI
  have WO := Lib.hid WO
  have SX := Lib.hid SX
  have SD := Lib.hid SD
  have OSZ := Lib.hid HZ.out.1
  clear VS VO VX SI SO hs1 hs2 hwt WE OS SB1 SB2 OOK
  refine wp_region_quiet_below (by kernel_rfl) (by kernel_rfl) ?_
  repeat (go_big_quiet_step (first | (with_reducible exact R3.out _ _) | (with_reducible exact R4.out _ _)))
  refine wpQuiet_nil ?_
  intro _ hw'
  obtain ⟨⟨dq, osq⟩, hw''⟩ := hw'
  subst hw''
  have BR := below_regrown wK dq osq
  obtain ⟨V, hV⟩ : ∃ X, X = Go.Sort.grow (redrawn wK dq) osq := ⟨_, rfl⟩
  rw [← hV] at BR ⊢
  have BV := Lib.hid BR
  clear hV BR hw F0 F1 F2 F3 G0 G1 G2 G3 H0 H1 H2 H3
  have c0 := (PK.below BV.out).cell0
  have c1' := (PK.below BV.out).cell1
  have c2' := (PK.below BV.out).cell2
  have c3 := (PK.below BV.out).cell3
  have d0 := (PO.below BV.out).cell0
  have d1 := (PO.below BV.out).cell1
  have d2 := (PO.below BV.out).cell2
  have d3 := (PO.below BV.out).cell3
  have e0 := (P8.below BV.out).cell0
  have e1 := (P8.below BV.out).cell1
  have e2 := (P8.below BV.out).cell2
  have e3 := (P8.below BV.out).cell3
  have F0 := fun d os => cell_regrown c0 d os
  have F1 := fun d os => cell_regrown c1' d os
  have F2 := fun d os => cell_regrown c2' d os
  have F3 := fun d os => cell_regrown c3 d os
  have G0 := fun d os => cell_regrown d0 d os
  have G1 := fun d os => cell_regrown d1 d os
  have G2 := fun d os => cell_regrown d2 d os
  have G3 := fun d os => cell_regrown d3 d os
  have H0 := fun d os => cell_regrown e0 d os
  have H1 := fun d os => cell_regrown e1 d os
  have H2 := fun d os => cell_regrown e2 d os
  have H3 := fun d os => cell_regrown e3 d os
  have BX := fun d os => (BV.out.trans ((below_regrown V d os).mono BV.out.size))
  have R5 := Lib.hid (fun (d : Nat) (os : Array Obj) => Calls.regrown_of (WI.out _ (BX d os)))
  have R6 := Lib.hid (fun (d : Nat) (os : Array Obj) => Calls.regrown_of (WO.out _ (BX d os)))
  have R7 := Lib.hid (fun (d : Nat) (os : Array Obj) => Calls.regrown_of (SX.out _ (BX d os)))
  have t3 : (wt == wt) = true := by simp
  have t4 : (O2.toList == O2.toList) = true := by simp
  have BY := Lib.hid (fun (d : Nat) (os : Array Obj) => BB.out.trans ((BI.out.trans ((IK.out.trans ((BX d os).mono IK.out.size)).mono BI.out.size)).mono BB.out.size))
  have hoz := OSZ.out
  obtain ⟨dd, hdd⟩ : ∃ x, x = s2 - s1 := ⟨_, rfl⟩
  rw [← hdd] at SD ⊢
  clear PK PO P8 c0 c1' c2' c3 d0 d1 d2 d3 e0 e1 e2 e3 BX hdd
  go_upto_region 12 with fail
  rcases SD.out with ⟨g1, g2⟩ | ⟨g1, g2⟩
  · have t5 : (dd == k) = true := by simp [g2]
    clear g1 g2
    refine wp_region_quiet_below (by kernel_rfl) (by kernel_rfl) ?_
    repeat (go_big_quiet_step (first | (with_reducible exact R5.out _ _) | (with_reducible exact R6.out _ _) | (with_reducible exact R7.out _ _)))
    refine wpQuiet_nil ?_
    intro _ hw'
    obtain ⟨⟨dq2, osq2⟩, hw''⟩ := hw'
    subst hw''
    have BW := Lib.hid (BY.out dq2 osq2)
    clear F0 F1 F2 F3 G0 G1 G2 G3 H0 H1 H2 H3
    go_wp2_with fail
    go_ret
    exact ⟨rfl, BW.out⟩
  · by_cases g3 : dd = k
    · have t5 : (dd == k) = true := by simp [g3]
      clear g1 g2 g3
      refine wp_region_quiet_below (by kernel_rfl) (by kernel_rfl) ?_
      repeat (go_big_quiet_step (first | (with_reducible exact R5.out _ _) | (with_reducible exact R6.out _ _) | (with_reducible exact R7.out _ _)))
      refine wpQuiet_nil ?_
      intro _ hw'
      obtain ⟨⟨dq2, osq2⟩, hw''⟩ := hw'
      subst hw''
      have BW := Lib.hid (BY.out dq2 osq2)
      clear F0 F1 F2 F3 G0 G1 G2 G3 H0 H1 H2 H3
      go_wp2_with fail
      go_ret
      exact ⟨rfl, BW.out⟩
    · have t5 : (dd == k) = false := by simp [g3]
      have t6 : ((O2.size : Int) == 0) = true := by simp [g1]
      have t7 : (dd == 0) = true := by simp [g2]
      clear g1 g2 g3
      refine wp_region_quiet_below (by kernel_rfl) (by kernel_rfl) ?_
      repeat (go_big_quiet_step (first | (with_reducible exact R5.out _ _) | (with_reducible exact R6.out _ _) | (with_reducible exact R7.out _ _)))
      refine wpQuiet_nil ?_
      intro _ hw'
      obtain ⟨⟨dq2, osq2⟩, hw''⟩ := hw'
      subst hw''
      have BW := Lib.hid (BY.out dq2 osq2)
      clear F0 F1 F2 F3 G0 G1 G2 G3 H0 H1 H2 H3
      go_wp2_with fail
      go_ret
      exact ⟨rfl, BW.out⟩

end Go.Proofs.Ytlcmkocbpnekhaa

namespace Go.Proofs.Ytlcmkocbpnekhaa.fnSingleLater
open Go.ChangeShapes Go.WideShapes Go.ChangeAt Go.RowKit
open Go.ChangeMaps (open_string shut_string)
set_option linter.unusedVariables false

theorem own : ownKnob Try.prog.godebug = none := by kernel_rfl
theorem laidOut : laidOutB Try.prog = true := by kernel_rfl

set_option maxRecDepth 100000 in
theorem lifted (os : Os) (started : os.Started) (H : Type) (enc : TypeId × Value → H) :
    ReturnsInHanded {} Try.checked os 6 .any (Rows.fnSingleLaterSpec.pre6 enc Try.prog Try.f6 Rows.fnSingleLaterRow.domain false) (Rows.fnSingleLaterSpec.post enc Try.prog Try.f6 false true false false) := by
  refine returnsInHanded_of_change (C := Try.checked) own started (by kernel_rfl) Try.func6
    (ChangeSpec.witness6 (enc := enc) (C := Try.checked) false ⟨#[], #[.slice none 0 0], []⟩ 8 (by kernel_rfl) (by kernel_rfl) (by kernel_rfl) (by kernel_rfl)) ?_
  intro W base args ds gs before hval0 hW hcnd _
  have hval : ∀ (j : Nat) t v, Try.f6.params[j]? = some t → args[j]? = some v → Value.okWide Try.prog W .any base t v := hval0
  have hW' := hW
  obtain ⟨p, q, hA0, hV, rfl, hfz, hnd⟩ := hW
  have hA : DataW.TrodAll enc Try.prog W 0 (fun _ => true) true Try.f6.params.toList args.toList ds p := hA0
  rw [Try.params6] at hA hval
  obtain ⟨v0, vs0, d0, ds0, p0, q0, hargs, rfl, rfl, h0, r0⟩ := trodAll_cons hA
  obtain ⟨rfl, rfl, rfl⟩ := trodAll_nil r0
  obtain rfl : args = #[v0] := by cases args; simp_all
  obtain ⟨rfl, rfl⟩ := trodVars_none hV
  obtain ⟨a0, len0, cap0, rfl⟩ := okWide_slice Try.underlying22 (hval 0 22 v0 rfl rfl)
  have k0 := h0
  have lt0 : ∀ x ∈ p0, x.block < W.heap.size := by obtain ⟨m, hm⟩ := k0; exact DataW.trod_lt m _ _ _ hm
  obtain ⟨z0, w0⟩ : ∃ zs, IsRowK .u8 W a0 len0 cap0 zs := by
    obtain ⟨fuel, hf⟩ := h0
    rcases open_ints Try.underlying22 Try.underlying5 (by kernel_rfl) hf with ⟨hcs, _⟩ | ⟨x, l, c, zs, hcs, _, hl, hm, hz, _, hcell, hwz⟩
    · simp [Value.cells] at hcs
      obtain ⟨rfl, rfl, rfl⟩ := hcs
      exact ⟨[], .inl ⟨rfl, rfl, rfl, rfl⟩⟩
    · simp [Value.cells] at hcs
      obtain ⟨rfl, rfl, rfl⟩ := hcs
      exact ⟨zs, .inr ⟨_, rfl, hl, hm, by simpa using hz, hcell, hwz⟩⟩
  clear hA0 hval0
  refine (walk_FnSingleLater a0 len0 cap0 z0 W w0).mono fun e W' ⟨he, bel⟩ => ?_
  subst he
  exact ⟨_, rfl, _, _, _, [], _, [], hW', trodAll_mk1 (shut_bool Try.underlying4 _), (trodAll_cons_mk (Below.trod laidOut (by kernel_rfl) (of_decide_eq_true (by kernel_rfl)) k0 bel lt0) trodAll_mk0), rfl, bel.frame _, fun h => by cases h⟩

theorem closed : joinedFacts Try.checked.prog 6 Try.f6 Rows.fnSingleLaterSpec Rows.fnSingleLaterRow = true := by
  unfold joinedFacts
  simp only [Bool.and_eq_true]
  repeat' (refine And.intro ?_ ?_)
  all_goals first
    | with_reducible exact may_enter
    | (rw [lifts_final]; kernel_rfl)
    | (rw [make_is]; kernel_rfl)
    | kernel_rfl

theorem over : Rows.fnSingleLaterRow.holds Try.pinned (OpenSpec.ofChange Rows.fnSingleLaterSpec) :=
  OpenClaim.holds_of_wide 6 Try.f6 rfl rfl rfl rfl rfl rfl rfl ⟨rfl, rfl, rfl, rfl, rfl⟩ rfl rfl rfl rfl rfl (by kernel_rfl) Try.func6 closed
    (of_decide_eq_true (by kernel_rfl)) (by unfold Func.isWrapper; first | (rw [if_pos (by decide +kernel)]; kernel_rfl) | (rw [if_neg (by decide +kernel)]; exact ⟨rfl, rfl⟩))
    (fun os started H enc _ => lifted os started H enc)

theorem proved : Rows.FnSingleLaterSaid := over
#print axioms proved
end Go.Proofs.Ytlcmkocbpnekhaa.fnSingleLater
