/-
  For every input the law 'FnFit' returns true, and each of its arguments reads behind the call as it read before. Conditions: none beyond those of the row.
-/
import Derived.Test.YtoebgdcgcdigaabRows
import Derived.WalkKit
import Derived.ProofKit
import Derived.OpenShut
import Derived.ShutString
import Derived.ChangeOld
import Derived.Below
import Derived.Deep.Matrix
import Derived.Test.YtoebgdcgcdigaabIo
import Derived.Test.YtoebgdcgcdigaabDrawV
import Derived.Test.YtoebgdcgcdigaabFreeQ
import Derived.Test.YtoebgdcgcdigaabFitS
import Derived.Test.YtoebgdcgcdigaabFit
import Derived.Test.YtoebgdcgcdigaabGap
import Derived.Test.YtoebgdcgcdigaabDrawS
import Derived.Test.YtoebgdcgcdigaabLateQ
import Derived.Lib.QuietBelow
import Derived.BigRegion
import Derived.BigQuiet
import Derived.Deep.RegionWith
namespace Go.Proofs.Ytoebgdcgcdigaab
open Go.RowKit

open Go.Sort

/-- What the law reads of a fitted path. -/
theorem fit_facts {n : Nat} {s : Int} {ps : List (List Int × List Int)} {rs : List Int} (h : fitB (n : Int) ps s rs = true) :
    rs.length = n ∧ pathsB (n : Int) ps = true ∧ pathB (n : Int) (fitV (n : Int) ps s rs) = true ∧ (fitV (n : Int) ps s rs).1.length = n ∧ (fitV (n : Int) ps s rs).2.length = n ∧ (0 ≤ s ∧ s ≤ 2000) ∧
      (∀ k, k < n → freeB (n : Int) ps k (fitTo (n : Int) ps s rs k) (rs.getD k 0) = true ∧ freeV (n : Int) ps k (fitTo (n : Int) ps s rs k) (rs.getD k 0) = (fitV (n : Int) ps s rs).1.getD k 0 ∧
        (fitV (n : Int) ps s rs).2.getD k 0 = (fitV (n : Int) ps s rs).1.getD k 0 + rs.getD k 0 ∧ fitTo (n : Int) ps s rs (k + 1) = (fitV (n : Int) ps s rs).2.getD k 0 ∧
        (0 ≤ (fitV (n : Int) ps s rs).1.getD k 0 ∧ (fitV (n : Int) ps s rs).1.getD k 0 ≤ 2000) ∧ 1 ≤ rs.getD k 0 ∧ rs.getD k 0 ≤ 100) ∧
      ∀ i, i < ps.length → clashOf (n : Int) (ps.getD i noPath) (fitV (n : Int) ps s rs) = [] := by
  obtain ⟨h1, h2, h3⟩ := fitB_is h
  have hl : rs.length = n := by omega
  have hp := (hasB_is (freeB_is (h3 0 (by omega))).1).1
  have hpb : pathB (n : Int) (fitV (n : Int) ps s rs) = true := by rw [fitV_yes h]; exact fit_path h
  have hi := pathB_is hpb
  refine ⟨hl, hp, hpb, by have := hi.2.1; omega, by have := hi.2.2.1; omega, ?_, fun k hk => ?_, fun i hi => ?_⟩
  · have := (freeB_args2 (h3 0 (by omega))).1
    exact this
  · obtain ⟨a1, a2, a3, a4⟩ := fit_at h (show k < rs.length by omega)
    have bd := hi.2.2.2.bounds (j := k) (by have := hi.2.1; omega)
    have g := freeB_is a1
    exact ⟨a1, a2, a3, a4, ⟨by omega, by omega⟩, g.2.1⟩
  · rw [fitV_yes h]
    have q := fit_apart h hi
    have cs : clashOf (n : Int) (ps.getD i noPath) (fitPath (n : Int) ps s rs rs.length) = clashOf (n : Int) (fitPath (n : Int) ps s rs rs.length) (ps.getD i noPath) := clashOf_sym _ _ _
    rw [cs]
    exact q

theorem le_five {n : Nat} (h : n ≤ 5) : n ≤ 1048576 := by omega
theorem later_wraps {s m : Int} (hs : 0 ≤ s ∧ s ≤ 2000) (hm : 0 ≤ m ∧ m ≤ 8) : wrap64 m = m ∧ wrap64 (s + 1) = s + 1 ∧ wrap64 (s + 1 + m) = s + 1 + m :=
  ⟨IntWalk.wrap64_in _ (by omega), IntWalk.wrap64_in _ (by omega), IntWalk.wrap64_in _ (by omega)⟩

set_option maxRecDepth 100000 in
set_option maxHeartbeats 8000000 in
theorem walk_FnFit (a0 : Option Addr) (len0 cap0 : Nat) (z0 : List Int) (a1 : Option Addr) (len1 cap1 : Nat) (z1 : List Int) (w : World) (w0 : IsRowK .u8 w a0 len0 cap0 z0) (w1 : IsRowK .u8 w a1 len1 cap1 z1) :
    Calls Try.prog 5 #[.slice a0 len0 cap0, .slice a1 len1 cap1] w fun e w' => e = .returned (.bool true) ∧ Below w.heap.size w w' := by
  rcases Nat.lt_or_ge 1048576 len0 with hbig | hsm
  · have hb : (1048576 : Int) < (len0 : Int) := by omega
    go_enter Try.func5, Try.ntmps5
    go_wp2_with fail
    go_ret
    exact ⟨rfl, Below.refl _ _⟩
  have hb : (len0 : Int) ≤ 1048576 := by omega
  rcases Nat.lt_or_ge 1048576 len1 with hbig | hsm1
  · have hb1 : (1048576 : Int) < (len1 : Int) := by omega
    go_enter Try.func5, Try.ntmps5
    go_wp2_with fail
    go_ret
    exact ⟨rfl, Below.refl _ _⟩
  have hb1 : (len1 : Int) ≤ 1048576 := by omega
  have DS := Lib.hid (drawFit w0 hsm)
  obtain ⟨m, hm⟩ : ∃ m : Int, m = (len1 : Int) % 9 := ⟨_, rfl⟩
  have hm2 : 0 ≤ m ∧ m ≤ 8 := by omega
  have HM := Lib.hid hm
  clear w0 w1 hm
  go_enter Try.func5, Try.ntmps5
  go_wp2_with (go_at_call 16; refine DS.out.mono ?_)
  rintro e w1 ⟨n, b, c, vs, ps, s, v, rs, rfl, hn1, hn4, hpl, hs, hv, lq, b1⟩
  have hpp := lq.paths (by omega)
  have GI := Lib.hid (fun (X : World) (hX : Below w1.heap.size w1 X) (s : Int) => implFit (n := (n : Int)) (s := s) (hpp.below hX) (hv.below hX))
  have GS := Lib.hid (fun (X : World) (hX : Below w1.heap.size w1 X) => specFit (n := (n : Int)) (s := s) (hpp.below hX) (hv.below hX))
  have GF := Lib.hid (fun (X : World) (hX : Below w1.heap.size w1 X) (k s r : Int) => implFree (n := (n : Int)) (k := k) (s := s) (r := r) (hpp.below hX))
  have HP := Lib.hid hpp
  have B1 := Lib.hid b1
  have fl := fitV_len (n : Int) ps s rs
  obtain ⟨av, cv, rfl, ⟨hrl1, hrl2⟩, hrc⟩ := hv
  have HRC := Lib.hid hrc
  clear hpp lq DS b1 hrc
  go_wp2_with (go_at_call 17; refine (GI.out _ (Below.refl _ _) s).mono ?_)
  rintro e w2 ⟨v2, rfl, o2, b2⟩
  obtain ⟨a2, m2, c2, e2, n2, d2, rfl⟩ := o2.form
  have q2 := below_alloc w2 (.cells #[.slice a2 m2 c2, .slice e2 n2 d2] 32)
  have p2 := Pair.new w2 (.slice a2 m2 c2) (.slice e2 n2 d2) 32
  obtain ⟨w3, h3⟩ : ∃ X, X = w2.alloc (.cells #[.slice a2 m2 c2, .slice e2 n2 d2] 32) := ⟨_, rfl⟩
  rw [← h3] at q2 p2
  have H3 := Lib.hid h3.symm
  have C3 := Lib.hid (b2.trans (q2.mono b2.size))
  have V2 := Lib.hid ((o2.pathV (by omega) (by omega)).below q2)
  have P2 := Lib.hid p2
  clear h3 q2 p2 o2 b2
  go_upto_region 5 with fail
  rw [H3.out]
  go_wp2_with (go_at_call 18; refine (GS.out _ C3.out).mono ?_)
  rintro e w4 ⟨v4, rfl, o4, b4⟩
  obtain ⟨a4, m4, c4, e4, n4, d4, rfl⟩ := o4.form
  have q4 := below_alloc w4 (.cells #[.slice a4 m4 c4, .slice e4 n4 d4] 32)
  have p4 := Pair.new w4 (.slice a4 m4 c4) (.slice e4 n4 d4) 32
  obtain ⟨w5, h5⟩ : ∃ X, X = w4.alloc (.cells #[.slice a4 m4 c4, .slice e4 n4 d4] 32) := ⟨_, rfl⟩
  rw [← h5] at q4 p4
  have H5 := Lib.hid h5.symm
  have b5 := b4.trans (q4.mono b4.size)
  have C5 := Lib.hid (C3.out.trans (b5.mono C3.out.size))
  have V2 := Lib.hid (V2.out.below b5)
  have P2 := Lib.hid (P2.out.below b5)
  have P4 := Lib.hid p4
  have SP := samePath V2.out ((o4.pathV (by omega) (by omega)).below q4)
  rw [decide_eq_true rfl] at SP
  have SP := Lib.hid (fun (X : World) (hX : Below w5.heap.size w5 X) => samePath (V2.out.below hX) (((o4.pathV (by omega) (by omega)).below q4).below hX))
  clear h5 q4 p4 o4 b4 b5 GS
  go_upto_region 6 with fail
  rw [H5.out]
  have k1 := P2.out.cell0
  have k2 := P2.out.cell1
  have k3 := P4.out.cell0
  have k4 := P4.out.cell1
  obtain ⟨t, ht⟩ : ∃ t, t = fitB (n : Int) ps s rs := ⟨_, rfl⟩
  have HT := Lib.hid ht
  rw [← ht]
  clear ht
  go_wp2_with (go_at_call 19; refine (SP.out _ (Below.refl _ _)).mono ?_)
  rintro e w6 ⟨rfl, b6⟩
  have C6 := Lib.hid (C5.out.trans (b6.mono C5.out.size))
  have B6 := Lib.hid b6
  clear b6 k1 k2 k3 k4
  have k1 := (P2.out.below B6.out).cell0
  have k2 := (P2.out.below B6.out).cell1
  have k3 := (P4.out.below B6.out).cell0
  have k4 := (P4.out.below B6.out).cell1
  cases t
  · go_wp2_with (go_at_call 19; refine (SP.out _ B6.out).mono ?_)
    rintro e w7 ⟨rfl, b7⟩
    have CE := Lib.hid (B1.out.trans ((C6.out.trans (b7.mono C6.out.size)).mono B1.out.size))
    clear b7
    go_wp2_with fail
    go_ret
    exact ⟨rfl, CE.out⟩
  obtain ⟨hrs, hpb, hfp, hf1, hf2, hss, hfa, hcl⟩ := fit_facts HT.out.symm
  have LT := Lib.hid (fun s' (h : fitB (n : Int) ps s' rs = true) (h2 : s ≤ s') => fit_later h hss.1 h2)
  have V6 := Lib.hid (V2.out.below B6.out)
  have P6 := Lib.hid (P2.out.below B6.out)
  obtain ⟨P, hP⟩ : ∃ P, P = fitV (n : Int) ps s rs := ⟨_, rfl⟩
  rw [← hP] at hfp hf1 hf2 hfa hcl V6 LT
  obtain ⟨g1, o1, l1, g2, o2, l2, ev, hg1, hg2, hc1, hc2⟩ := V6.out.cells hfp
  simp only [Value.agg.injEq, Array.mk.injEq, List.cons.injEq, Value.slice.injEq, and_true] at ev
  obtain ⟨⟨rfl, rfl, rfl⟩, rfl, rfl, rfl⟩ := ev
  rw [hf1] at P6 V6 hc1 k1
  rw [hf2] at P6 V6 hc2 k2
  have HC1 := Lib.hid hc1
  have HC2 := Lib.hid hc2
  have FA := Lib.hid hfa
  have CL := Lib.hid hcl
  have FP := Lib.hid hfp
  have PB := Lib.hid hpb
  have HRS := Lib.hid hrs
  have HAT := Lib.hid (fun (i : Nat) (hi : i < ps.length) => paths_at HP.out hi)
  have hr0 : rs ≠ [] := fun e => by rw [e] at hrs; simp only [List.length_nil] at hrs; omega
  obtain ⟨rb, ro, rfl, hrb, hrcell⟩ := HRC.out.resolve_left hr0
  rw [hrs] at hrcell
  have RC := Lib.hid hrcell
  have hn1i : (1 : Int) ≤ (n : Int) := by omega
  rw [hrs]
  clear hfa hcl hfp hpb hrs hr0 hrcell hP fl hc1 hc2 k3 k4 HRC H3 H5 HT
  go_wp2_with fail
  clear k1 k2
  go_loopw [13, 14] (fun av kv wr => ∃ k : Nat, k ≤ n ∧ kv = .int .i64 k ∧ av = .int .i64 (fitTo (n : Int) ps s rs k) ∧ Below w6.heap.size w6 wr) (fun _ kv _ => n - (intOf kv).toNat)
  case atStart => exact ⟨0, by omega, rfl, rfl, Below.refl _ _⟩
  case round =>
    obtain ⟨k, hk, rfl, rfl, hbel⟩ := hrel
    have BW := Lib.hid hbel
    have CW := Lib.hid (C6.out.trans (hbel.mono C6.out.size))
    by_cases hkn : k < n
    · have hki : (k : Int) < (n : Int) := by omega
      obtain ⟨f1, f2, f3, f4, ⟨f5, f6⟩, f7, f8⟩ := FA.out k hkn
      have FT := Lib.hid (show fitTo (n : Int) ps s rs (k + 1) = P.1.getD k 0 + rs.getD k 0 by rw [f4, f3])
      have k5 := (CW.out.cell (p := ⟨rb, ro + k, none⟩) hrb).trans (RC.out k hkn)
      have GG := Lib.hid ((GF.out _ CW.out k (fitTo (n : Int) ps s rs k) (rs.getD k 0)).mono (R' := fun e w' => e = .returned (.tuple #[.int .i64 (P.1.getD k 0), .bool true]) ∧ Below wr.heap.size wr w') fun e w' q => by
        obtain ⟨X, q, rfl, ⟨hX, hq⟩, hb⟩ := q
        rw [f2] at hX
        rw [f1] at hq
        subst hX
        subst hq
        exact ⟨rfl, hb⟩)
      obtain ⟨at', hat'⟩ : ∃ x, x = fitTo (n : Int) ps s rs k := ⟨_, rfl⟩
      rw [← hat'] at GG ⊢
      have c1 := HC1.out k (by omega)
      have c2 := HC2.out k (by omega)
      have X1 := Lib.hid f3
      rw [f3] at c2
      generalize hx : P.1.getD k 0 = x at GG f5 f6 c1 c2 FT
      generalize hr : rs.getD k 0 = r at GG f7 f8 c2 k5 FT
      have hsz := hbel.size
      clear f1 f2 f3 f4 hat' hbel hx hr X1
      go_wp2_with (go_at_call 14; refine GG.out.mono ?_; rintro e w7 ⟨rfl, b7⟩)
      have B7 := Lib.hid (BW.out.trans (b7.mono hsz))
      have h1 := B7.out.cell (p := ⟨g1, o1 + k, none⟩) hg1 |>.trans c1
      have h2 := B7.out.cell (p := ⟨g2, o2 + k, none⟩) hg2 |>.trans c2
      have h3 := (P6.out.below B7.out).cell0
      have h4 := (P6.out.below B7.out).cell1
      have h5 := (b7.cell (p := ⟨rb, ro + k, none⟩) (Nat.lt_of_lt_of_le hrb CW.out.size)).trans k5
      have z1 := fun d os => cell_regrown h1 d os
      have z2 := fun d os => cell_regrown h2 d os
      have z3 := fun d os => cell_regrown h3 d os
      have z4 := fun d os => cell_regrown h4 d os
      have z5 := fun d os => cell_regrown h5 d os
      have hw1 : IntKind.i64.wrap (x + r) = x + r := IntWalk.i64_in _ (by omega)
      have hxx : (x != x) = false := by simp
      have hyy : (x + r != x + r) = false := by simp
      clear b7 k5 c1 c2
      go_wp2_with fail
      refine wp_region_quiet_below (by kernel_rfl) (by kernel_rfl) ?_
      repeat (go_big_quiet_step (fail))
      refine wpQuiet_nil ?_
      intro _ hw'
      obtain ⟨⟨dq, osq⟩, hw''⟩ := hw'
      subst hw''
      have BF := Lib.hid (B7.out.trans ((below_regrown w7 dq osq).mono B7.out.size))
      have y2 := z2 dq osq
      have y4 := z4 dq osq
      clear z1 z2 z3 z4 z5 h1 h2 h3 h4 h5
      go_wp2_with fail
      go_roundw
      case rel => exact ⟨k + 1, by omega, by go_num, by rw [FT.out], BF.out⟩
      case measure => simp [intOf]; omega
    · obtain rfl : k = n := by omega
      have hsw := later_wraps hss hm2
      have ht1 : (len1 : Int) % 9 = m := HM.out.symm
      have ht2 := hsw.2.1
      have ht3 := hsw.2.2
      clear hsw
      have GL := GI.out _ CW.out (s + 1 + m)
      have fl := fitV_len (k : Int) ps (s + 1 + m) rs
      have LX := LT.out (s + 1 + m)
      obtain ⟨t7, ht7⟩ : ∃ t, t = fitB (k : Int) ps (s + 1 + m) rs := ⟨_, rfl⟩
      obtain ⟨Q, hQ⟩ : ∃ Q, Q = fitV (k : Int) ps (s + 1 + m) rs := ⟨_, rfl⟩
      have QF := Lib.hid (fun (h : t7 = true) => fit_facts (ht7 ▸ h))
      rw [← ht7] at GL LX
      rw [← hQ] at GL LX fl QF
      rw [HRS.out] at GL
      have GL := Lib.hid GL
      have LX := Lib.hid LX
      clear hbel ht7 hQ LT
      go_wp2_with (go_at_call 17; refine GL.out.mono ?_)
      rintro e w7 ⟨v7, rfl, o7, b7⟩
      obtain ⟨a7, m7, c7, e7, n7, d7, rfl⟩ := o7.form
      have q7 := below_alloc w7 (.cells #[.slice a7 m7 c7, .slice e7 n7 d7] 32)
      have p7 := Pair.new w7 (.slice a7 m7 c7) (.slice e7 n7 d7) 32
      obtain ⟨w8, h8⟩ : ∃ X, X = w7.alloc (.cells #[.slice a7 m7 c7, .slice e7 n7 d7] 32) := ⟨_, rfl⟩
      rw [← h8] at q7 p7
      have H8 := Lib.hid h8.symm
      have B8 := Lib.hid (BW.out.trans ((b7.trans (q7.mono b7.size)).mono BW.out.size))
      have V7 := Lib.hid ((o7.pathV (le_five fl.1) (le_five fl.2)).below q7)
      have P7 := Lib.hid p7
      clear h8 q7 p7 o7 b7 GL
      go_upto_region 17 with fail
      rw [H8.out]
      go_wp2_with fail
      go_loopw [19] (fun jv ws => ∃ j : Nat, j ≤ k ∧ jv = .int .i64 j ∧ Below w8.heap.size w8 ws) (fun jv _ => k - (intOf jv).toNat)
      case atStart => exact ⟨0, by omega, rfl, Below.refl _ _⟩
      case round =>
        obtain ⟨j, hj, rfl, hbj⟩ := hrel
        have CJ := Lib.hid (B8.out.trans (hbj.mono B8.out.size))
        by_cases hgo : j < k ∧ t7 = true
        · obtain ⟨hjk, rfl⟩ := hgo
          have hji : (j : Int) < (k : Int) := by omega
          obtain ⟨-, -, hqp, hq1, hq2, -, -, -⟩ := QF.out rfl
          obtain ⟨g3, o3, l3, g4, o4, l4, ev, hg3, hg4, hc3, hc4⟩ := V7.out.cells hqp
          simp only [Value.agg.injEq, Array.mk.injEq, List.cons.injEq, Value.slice.injEq, and_true] at ev
          obtain ⟨⟨rfl, rfl, rfl⟩, rfl, rfl, rfl⟩ := ev
          have P7' := P7.out.below hbj
          have hjq : (j : Int) < (Q.1.length : Int) := by rw [hq1]; exact hji
          have hjq2 : j < Q.1.length := by rw [hq1]; exact hjk
          have c31 := hc3 j hjq2
          have h3 := P7'.cell0
          have h4 := (P6.out.below CJ.out).cell0
          have h1 := (hbj.cell (p := ⟨g3, o3 + j, none⟩) hg3).trans c31
          have h2 := (CJ.out.cell (p := ⟨g1, o1 + j, none⟩) hg1).trans (HC1.out j (by omega))
          have hle := LX.out rfl (by omega) j (by rw [HRS.out]; exact hjk)
          generalize P.1.getD j 0 = x at h2 hle
          generalize Q.1.getD j 0 = y at h1 hle
          have hd : decide (y < x) = false := decide_eq_false (by omega)
          have z1 := fun d os => cell_regrown h1 d os
          have z2 := fun d os => cell_regrown h2 d os
          have z3 := fun d os => cell_regrown h3 d os
          have z4 := fun d os => cell_regrown h4 d os
          have BJ := Lib.hid hbj
          clear hc3 hc4 P7' hqp hbj hle c31 hq1 hq2
          go_wp2_with fail
          refine wp_region_quiet_below (by kernel_rfl) (by kernel_rfl) ?_
          repeat (go_big_quiet_step (fail))
          refine wpQuiet_nil ?_
          intro _ hw'
          obtain ⟨⟨dq, osq⟩, hw''⟩ := hw'
          subst hw''
          have BF := Lib.hid (BJ.out.trans ((below_regrown _ dq osq).mono BJ.out.size))
          clear z1 z2 z3 z4 h1 h2 h3 h4
          go_wp2_with fail
          go_roundw
          case rel => exact ⟨j + 1, by omega, by go_num, BF.out⟩
          case measure => simp [intOf]; omega
        · have hcase : (¬ (j : Int) < (k : Int)) ∨ ((j : Int) < (k : Int) ∧ t7 = false) := by
            by_cases q : j < k
            · right
              refine ⟨by omega, ?_⟩
              cases t7
              · rfl
              · exact absurd ⟨q, rfl⟩ hgo
            · left; omega
          clear hgo hbj
          rcases hcase with hcs | ⟨hcs, rfl⟩
          all_goals
            go_wp2_with fail
            go_loopw [20] (fun iv wt => ∃ i : Nat, i ≤ ps.length ∧ iv = .int .i64 i ∧ Below w6.heap.size w6 wt) (fun iv _ => ps.length - (intOf iv).toNat)
            case atStart => exact ⟨0, by omega, rfl, CJ.out⟩
            case round =>
              obtain ⟨i, hi, rfl, hbi⟩ := hrel
              by_cases hlt : i < ps.length
              · obtain ⟨_, o, e, hb1', hat⟩ := HAT.out i hlt
                simp only [Option.some.injEq, Addr.mk.injEq, and_true] at e
                obtain ⟨rfl, rfl⟩ := e
                have CI := C6.out.trans (hbi.mono C6.out.size)
                obtain ⟨x1, x2, cx1, cx2, vx⟩ := ((hat i hlt).below CI).pathV
                have cx1' := cx1
                have cx2' := cx2
                simp only [Nat.zero_add] at cx1' cx2'
                have hil : (i : Int) < (ps.length : Int) := by omega
                have CLS := Lib.hid (fun (X : World) (c : Below wr.heap.size wr X) => implClash (n := (k : Int)) (vx.below c) ((V6.out.below hbi).below c))
                rw [CL.out i hlt] at CLS
                have dr : Below wr.heap.size wr wr.drew := (Below.refl _ _).drew
                have h3 := (P6.out.below hbi).cell0
                have h4 := (P6.out.below hbi).cell1
                have BI := Lib.hid hbi
                clear hat vx hbi CI
                go_wp2_with fail
                go_region_with (go_at_call 20; refine (CLS.out _ dr).mono ?_; rintro e w2 ⟨vc, rfl, oc, b2⟩; obtain ⟨ac, cc, rfl⟩ := own_slice2 oc; have c2 := Lib.hid (dr.trans (b2.mono dr.size)); clear oc b2)
                all_goals go_wp2_with fail
                all_goals go_roundw
                all_goals first
                  | exact ⟨i + 1, by omega, by go_num, BI.out.trans (c2.out.mono BI.out.size)⟩
                  | (simp [intOf]; omega)
              · obtain rfl : i = ps.length := by omega
                have h3 := (P6.out.below hbi).cell0
                have h4 := (P6.out.below hbi).cell1
                have VV := implValid (n := (k : Int)) (V6.out.below hbi)
                rw [FP.out] at VV
                have VV := Lib.hid VV
                have CI := Lib.hid (B1.out.trans ((C6.out.trans (hbi.mono C6.out.size)).mono B1.out.size))
                clear hbi
                go_wp2_with (go_at_call 21; refine VV.out.mono ?_; rintro e w9 ⟨rfl, b9⟩)
                go_ret
                exact ⟨rfl, CI.out.trans (b9.mono CI.out.size)⟩

end Go.Proofs.Ytoebgdcgcdigaab

namespace Go.Proofs.Ytoebgdcgcdigaab.fnFit
open Go.ChangeShapes Go.WideShapes Go.ChangeAt Go.RowKit
open Go.ChangeMaps (open_string shut_string)
set_option linter.unusedVariables false

theorem own : ownKnob Try.prog.godebug = none := by kernel_rfl
theorem laidOut : laidOutB Try.prog = true := by kernel_rfl

set_option maxRecDepth 100000 in
theorem lifted (os : Os) (started : os.Started) (H : Type) (enc : TypeId × Value → H) :
    ReturnsInHanded {} Try.checked os 5 .any (Rows.fnFitSpec.pre6 enc Try.prog Try.f5 Rows.fnFitRow.domain false) (Rows.fnFitSpec.post enc Try.prog Try.f5 false true false false) := by
  refine returnsInHanded_of_change (C := Try.checked) own started (by kernel_rfl) Try.func5
    (ChangeSpec.witness6 (enc := enc) (C := Try.checked) false ⟨#[], #[.slice none 0 0, .slice none 0 0], []⟩ 8 (by kernel_rfl) (by kernel_rfl) (by kernel_rfl) (by kernel_rfl)) ?_
  intro W base args ds gs before hval0 hW hcnd _
  have hval : ∀ (j : Nat) t v, Try.f5.params[j]? = some t → args[j]? = some v → Value.okWide Try.prog W .any base t v := hval0
  have hW' := hW
  obtain ⟨p, q, hA0, hV, rfl, hfz, hnd⟩ := hW
  have hA : DataW.TrodAll enc Try.prog W 0 (fun _ => true) true Try.f5.params.toList args.toList ds p := hA0
  rw [Try.params5] at hA hval
  obtain ⟨v0, vs0, d0, ds0, p0, q0, hargs, rfl, rfl, h0, r0⟩ := trodAll_cons hA
  obtain ⟨v1, vs1, d1, ds1, p1, q1, rfl, rfl, rfl, h1, r1⟩ := trodAll_cons r0
  obtain ⟨rfl, rfl, rfl⟩ := trodAll_nil r1
  obtain rfl : args = #[v0, v1] := by cases args; simp_all
  obtain ⟨rfl, rfl⟩ := trodVars_none hV
  obtain ⟨a0, len0, cap0, rfl⟩ := okWide_slice Try.underlying22 (hval 0 22 v0 rfl rfl)
  have k0 := h0
  have lt0 : ∀ x ∈ p0, x.block < W.heap.size := by obtain ⟨m, hm⟩ := k0; exact DataW.trod_lt m _ _ _ hm
  obtain ⟨z0, w0⟩ : ∃ zs, IsRowK .u8 W a0 len0 cap0 zs := by
    obtain ⟨fuel, hf⟩ := h0
    rcases open_ints Try.underlying22 Try.underlying5 (by kernel_rfl) hf with ⟨hcs, _⟩ | ⟨x, l, c, zs, hcs, _, hl, hm, hz, _, hcell, hwz⟩
    · simp [Value.cells] at hcs
      obtain ⟨rfl, rfl, rfl⟩ := hcs
      exact ⟨[], .inl ⟨rfl, rfl, rfl, rfl⟩⟩
    · simp [Value.cells] at hcs
      obtain ⟨rfl, rfl, rfl⟩ := hcs
      exact ⟨zs, .inr ⟨_, rfl, hl, hm, by simpa using hz, hcell, hwz⟩⟩
  obtain ⟨a1, len1, cap1, rfl⟩ := okWide_slice Try.underlying22 (hval 1 22 v1 rfl rfl)
  have k1 := h1
  have lt1 : ∀ x ∈ p1, x.block < W.heap.size := by obtain ⟨m, hm⟩ := k1; exact DataW.trod_lt m _ _ _ hm
  obtain ⟨z1, w1⟩ : ∃ zs, IsRowK .u8 W a1 len1 cap1 zs := by
    obtain ⟨fuel, hf⟩ := h1
    rcases open_ints Try.underlying22 Try.underlying5 (by kernel_rfl) hf with ⟨hcs, _⟩ | ⟨x, l, c, zs, hcs, _, hl, hm, hz, _, hcell, hwz⟩
    · simp [Value.cells] at hcs
      obtain ⟨rfl, rfl, rfl⟩ := hcs
      exact ⟨[], .inl ⟨rfl, rfl, rfl, rfl⟩⟩
    · simp [Value.cells] at hcs
      obtain ⟨rfl, rfl, rfl⟩ := hcs
      exact ⟨zs, .inr ⟨_, rfl, hl, hm, by simpa using hz, hcell, hwz⟩⟩
  clear hA0 hval0
  refine (walk_FnFit a0 len0 cap0 z0 a1 len1 cap1 z1 W w0 w1).mono fun e W' ⟨he, bel⟩ => ?_
  subst he
  exact ⟨_, rfl, _, _, _, [], _, [], hW', trodAll_mk1 (shut_bool Try.underlying4 _), (trodAll_cons_mk (Below.trod laidOut (by kernel_rfl) (of_decide_eq_true (by kernel_rfl)) k0 bel lt0) (trodAll_cons_mk (Below.trod laidOut (by kernel_rfl) (of_decide_eq_true (by kernel_rfl)) k1 bel lt1) trodAll_mk0)), rfl, bel.frame _, fun h => by cases h⟩

theorem closed : joinedFacts Try.checked.prog 5 Try.f5 Rows.fnFitSpec Rows.fnFitRow = true := by
  unfold joinedFacts
  simp only [Bool.and_eq_true]
  repeat' (refine And.intro ?_ ?_)
  all_goals first
    | with_reducible exact may_enter
    | (rw [lifts_final]; kernel_rfl)
    | (rw [make_is]; kernel_rfl)
    | kernel_rfl

theorem over : Rows.fnFitRow.holds Try.pinned (OpenSpec.ofChange Rows.fnFitSpec) :=
  OpenClaim.holds_of_wide 5 Try.f5 rfl rfl rfl rfl rfl rfl rfl ⟨rfl, rfl, rfl, rfl, rfl⟩ rfl rfl rfl rfl rfl (by kernel_rfl) Try.func5 closed
    (of_decide_eq_true (by kernel_rfl)) (by unfold Func.isWrapper; first | (rw [if_pos (by decide +kernel)]; kernel_rfl) | (rw [if_neg (by decide +kernel)]; exact ⟨rfl, rfl⟩))
    (fun os started H enc _ => lifted os started H enc)

theorem proved : Rows.FnFitSaid := over
#print axioms proved
end Go.Proofs.Ytoebgdcgcdigaab.fnFit
