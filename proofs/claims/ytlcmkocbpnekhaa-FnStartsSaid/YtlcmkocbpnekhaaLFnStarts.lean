/-
  For every input the law 'FnStarts' returns true, and each of its arguments reads behind the call as it read before. Conditions: none beyond those of the row.
-/
import Derived.Test.YtlcmkocbpnekhaaRows
import Derived.WalkKit
import Derived.ProofKit
import Derived.OpenShut
import Derived.ShutString
import Derived.ChangeOld
import Derived.Below
import Derived.Deep.Matrix
import Derived.Test.YtlcmkocbpnekhaaIo
import Derived.Test.YtlcmkocbpnekhaaDrOs
import Derived.Test.YtlcmkocbpnekhaaSgF
import Derived.Test.YtlcmkocbpnekhaaSameL
import Derived.Deep.RegionHeld3
namespace Go.Proofs.Ytlcmkocbpnekhaa
open Go.RowKit

set_option maxRecDepth 100000 in
set_option maxHeartbeats 8000000 in
theorem walk_FnStarts (a0 : Option Addr) (len0 cap0 : Nat) (z0 : List Int) (w : World) (w0 : IsRowK .u8 w a0 len0 cap0 z0) :
    Calls Try.prog 3 #[.slice a0 len0 cap0] w fun e w' => e = .returned (.bool true) ∧ Below w.heap.size w w' := by
  rcases Nat.lt_or_ge 1048576 len0 with hbig | hsm
  · have hb : (1048576 : Int) < (len0 : Int) := by omega
    go_enter Try.func3, Try.ntmps3
    go_wp2_with fail
    go_ret
    exact ⟨rfl, Below.refl _ _⟩
  have hb : (len0 : Int) ≤ 1048576 := by omega
  have DN := Lib.hid (drawOStarts w0 hsm)
  clear w0
  go_enter Try.func3, Try.ntmps3
  go_upto_region 4 with (go_at_call 10; refine DN.out.mono ?_; rintro e wA ⟨v, s, S, rfl, os, ss, hS, bA⟩; obtain ⟨a1, n1, c1, a2, n2, c2, rfl⟩ := os.form)
  have qB0 := Quad.new wA (.slice a1 n1 c1) (.slice a2 n2 c2) (.int .i64 s.run) (.int .i64 s.head) 25
  have bB := below_alloc wA (.cells #[.slice a1 n1 c1, .slice a2 n2 c2, .int .i64 s.run, .int .i64 s.head] 25)
  have sv := (os.sgV (by have := ss.la; omega) (by have := ss.lb; omega)).below bB
  obtain ⟨wB, hwB⟩ : ∃ X, X = wA.alloc (.cells #[.slice a1 n1 c1, .slice a2 n2 c2, .int .i64 s.run, .int .i64 s.head] 25) := ⟨_, rfl⟩
  rw [← hwB] at qB0 bB sv ⊢
  have BB := Lib.hid (bA.trans (bB.mono bA.size))
  have QB := Lib.hid qB0
  have IE := Lib.hid (fun (X : World) (b : Below wB.heap.size wB X) => implStarts (S := S) (sv.below b) (by omega))
  have SE := Lib.hid (fun (X : World) (b : Below wB.heap.size wB X) => specStarts (S := S) (sv.below b) (by omega))
  obtain ⟨i1, i2⟩ : Ints wB (.slice a1 n1 c1) s.A ∧ Ints wB (.slice a2 n2 c2) s.B := by
    obtain ⟨x, y, e, i1, i2⟩ := sv
    simp only [Value.agg.injEq, Array.mk.injEq, List.cons.injEq, and_true] at e
    obtain ⟨rfl, rfl, -⟩ := e
    exact ⟨i1, i2⟩
  have I1 := Lib.hid i1
  have I2 := Lib.hid i2
  have YL : (stV s S).length ≤ 100 := by
    cases q : sgO s S
    · rw [stV_no q]; exact Nat.zero_le _
    · rw [stV_yes q, stL_len]; exact hS
  obtain ⟨ys, hys⟩ : ∃ m, m = stV s S := ⟨_, rfl⟩
  have HY := Lib.hid hys
  rw [← hys] at IE SE YL
  obtain ⟨t, ht⟩ : ∃ m, m = sgO s S := ⟨_, rfl⟩
  rw [← ht] at IE SE
  have k0 := QB.out.cell0
  have k1 := QB.out.cell1
  have k2 := QB.out.cell2
  have k3 := QB.out.cell3
  have HS := Lib.hid hS
  have HT := Lib.hid ht.symm
  have YLi : (ys.length : Int) ≤ 100 := by omega
  have HYL := Lib.hid YL
  clear hys ht hwB qB0 bB sv os ss bA i1 i2
  go_upto_region 5 with (go_at_call 11; refine (IE.out _ (below_self _)).mono ?_; rintro e wC ⟨vo, rfl, oC, bC⟩)
  have l0 := (QB.out.below bC).cell0
  have l1 := (QB.out.below bC).cell1
  have l2 := (QB.out.below bC).cell2
  have l3 := (QB.out.below bC).cell3
  have BC := Lib.hid bC
  have OC := Lib.hid oC
  clear k0 k1 k2 k3 bC oC
  go_upto_region 6 with (go_at_call 12; refine (SE.out _ BC.out).mono ?_; rintro e wD ⟨vw, rfl, oD, bD⟩)
  have BD := Lib.hid (BC.out.trans (bD.mono BC.out.size))
  have OD := Lib.hid (OC.out.below bD)
  have SM := Lib.hid (fun (X : World) (b : Below wD.heap.size wD X) => by
    have q := sameInts ((OD.out.below b).ints (by have := HYL.out; omega)) ((oD.below b).ints (by have := HYL.out; omega))
    rw [decide_eq_true rfl] at q
    exact q)
  clear l0 l1 l2 l3 bD oD
  cases t
  · go_wp2_with (first
      | (go_at_call 13; refine (SM.out _ (below_self _)).mono ?_; rintro e wE ⟨rfl, bE⟩; clear BC)
      | (go_at_call 13; refine (SM.out _ bE).mono ?_; rintro e wF ⟨rfl, bF⟩))
    go_ret
    exact ⟨rfl, BB.out.trans ((BD.out.trans ((bE.trans (bF.mono bE.size)).mono BD.out.size)).mono BB.out.size)⟩
  go_upto_region 7 with (go_at_call 13; refine (SM.out _ (below_self _)).mono ?_; rintro e wE ⟨rfl, bE⟩)
  have BE := Lib.hid (BD.out.trans (bE.mono BD.out.size))
  obtain ⟨a5, n5, c5, rfl⟩ := own_is_slice OD.out
  have hn5 := (OD.out.below bE).ints (by have := HYL.out; omega)
  obtain ⟨_, _, e5, -⟩ := id hn5
  simp only [Value.slice.injEq] at e5
  obtain ⟨-, rfl, -⟩ := e5
  have YS := HY.out
  rw [stV_yes HT.out] at YS
  have YN : ys.length = S.size := by rw [YS, stL_len]
  have YA := Lib.hid (fun (k : Nat) (hk : k < S.size) => show ys.getD k 0 = stA s S k by rw [YS]; exact stL_at hk)
  have L1 := Lib.hid (show n1 = s.A.length from slice_len I1.out)
  have L2 := Lib.hid (show n2 = s.B.length from slice_len I2.out)
  have hn12 : (S.size : Int) ≤ 12 := by have := sgO_size HT.out; omega
  have OE := Lib.hid hn5
  have QE := Lib.hid (QB.out.below BE.out)
  have J1 := Lib.hid (I1.out.below BE.out)
  have J2 := Lib.hid (I2.out.below BE.out)
  have BZ := Lib.hid (BB.out.trans (BE.out.mono BB.out.size))
  have OO := Lib.hid (sgO_of HT.out).2
  have SG := Lib.hid (sgO_of HT.out).1
  rw [YN] at OE ⊢
  have EE := Lib.hid (below_self wE)
  clear YS hn5 SM OD IE SE YLi bE BC
  go_loopw [9, 10, 11] (fun a b i wr => ∃ k : Nat, k ≤ S.size ∧ i = .int .i64 k ∧ a = .int .i64 (upTo S k : Nat) ∧ b = .int .i64 ((k - upTo S k : Nat) : Int) ∧ Hid (Below wE.heap.size wE wr)) (fun _ _ i _ => S.size - (intOf i).toNat)
  case atStart => exact ⟨0, Nat.zero_le _, rfl, rfl, rfl, EE⟩
  case round =>
    obtain ⟨k, hk, rfl, rfl, rfl, HB⟩ := hrel
    by_cases hlt : k < S.size
    · have hki : (k : Int) < (S.size : Int) := by omega
      have hix := index_at hlt
      have UU := Lib.hid (@upTo_U S k)
      have UD := Lib.hid (@upTo_D S k)
      have hup := upTo_le S k
      have uk := OO.out.upAt hlt
      have dk := OO.out.downAt hlt
      have RU := Lib.hid (@rdy_U s S k)
      have RD := Lib.hid (@rdy_D s S k)
      have RR := rdy_range HT.out hlt
      have z0 := (QE.out.below HB.out).cell0
      have z1 := (QE.out.below HB.out).cell1
      have AB : ∃ (m m2 : Nat), m = upTo S (k + 1) ∧ m2 = k + 1 - upTo S (k + 1) := ⟨_, _, rfl, rfl⟩
      obtain ⟨m', m2', hm', hm2'⟩ := AB
      rw [← hm'] at UU UD hm2'
      have HM1 := Lib.hid hm'
      clear hm'
      obtain ⟨m, hm⟩ : ∃ m, m = upTo S k := ⟨_, rfl⟩
      rw [← hm] at UU UD hup uk dk RU RD ⊢
      obtain ⟨x, hx⟩ : ∃ x, x = bt S k := ⟨_, rfl⟩
      rw [← hx] at hix UU UD uk dk RU RD
      obtain ⟨y, hy⟩ : ∃ y, y = rdy s S k := ⟨_, rfl⟩
      rw [← hy] at RU RD RR
      have HX := Lib.hid hx
      have HYY := Lib.hid hy
      have HMK := Lib.hid (And.intro hm hup)
      have HM2 := Lib.hid hm2'
      have HRR := Lib.hid RR
      clear hx hy hm hm2' RR
      have hmS : (m : Int) ≤ 12 := by omega
      have hkS : ((k - m : Nat) : Int) ≤ 12 := by omega
      go_upto_region 14 with fail
      obtain ⟨tx, htx⟩ : ∃ t, t = (x == 85) := ⟨_, rfl⟩
      have TX := htx.symm
      have HTX := Lib.hid htx
      clear htx
      go_cut [64] (fun v wx => v = .bool tx ∧ wr = wx)
      case first =>
        go_wp2_with fail
        go_meet
        exact ⟨rfl, rfl⟩
      case rest =>
      obtain ⟨rfl, rfl⟩ := hcut
      rename_i K1 hK1
      refine hK1 _ _ ?_
      clear hK1
      go_cut [9, 10, 12] (fun ua ub rd wx => ua = .int .i64 (m' : Int) ∧ ub = .int .i64 (m2' : Int) ∧ rd = .int .i64 y ∧ wr = wx)
      case first =>
        by_cases h1 : x = 85
        · have q1 := UU.out h1
          have hmA := uk h1
          obtain ⟨b, o, c1', e, hb, hc⟩ := ints_at J1.out (by omega)
          simp only [Value.slice.injEq] at e
          obtain ⟨rfl, rfl, rfl⟩ := e
          have hcell := (HB.out.cell (p := ⟨b, o + m, none⟩) hb).trans (hc m hmA)
          rw [← RU.out h1] at hcell
          have hmi : (m : Int) < (s.A.length : Int) := by omega
          have E1 := Lib.hid (show (m : Int) + 1 = (m' : Int) by omega)
          have E2 := Lib.hid (show ((k - m : Nat) : Int) = (m2' : Int) by have := HM2.out; have := HMK.out.2; omega)
          obtain rfl : tx = true := by rw [HTX.out]; simp [h1]
          clear hc uk dk q1 hup h1 TX
          go_wp2_with fail
          go_meet
          exact ⟨by rw [E1.out], by rw [E2.out], rfl, rfl⟩
        · have q1 := UD.out h1
          have hmB := dk h1
          obtain ⟨b, o, c1', e, hb, hc⟩ := ints_at J2.out (by omega)
          simp only [Value.slice.injEq] at e
          obtain ⟨rfl, rfl, rfl⟩ := e
          obtain rfl : tx = false := by rw [HTX.out]; simp [h1]
          have hcell := (HB.out.cell (p := ⟨b, o + (k - m), none⟩) hb).trans (hc (k - m) hmB)
          rw [← RD.out h1] at hcell
          have E1 := Lib.hid (show (m : Int) = (m' : Int) by omega)
          have E2 := Lib.hid (show ((k - m : Nat) : Int) + 1 = (m2' : Int) by have := HM2.out; have := HMK.out.2; omega)
          obtain ⟨d, hd2⟩ : ∃ d, d = k - m := ⟨_, rfl⟩
          rw [← hd2] at hcell hmB E2 hkS ⊢
          have hmi : (d : Int) < (s.B.length : Int) := by omega
          clear hc uk dk q1 hup h1 hd2 TX
          go_wp2_with fail
          go_meet
          exact ⟨by rw [E1.out], by rw [E2.out], rfl, rfl⟩
      case rest =>
        obtain ⟨rfl, rfl, rfl, rfl⟩ := hcut
        clear z0 z1 UU UD uk dk hup TX
        obtain ⟨b5, o5, c5', e, hb5, hc5⟩ := ints_at OE.out (by rw [YN]; omega)
        rw [YN] at e hc5
        simp only [Value.slice.injEq, true_and] at e
        obtain ⟨rfl, rfl⟩ := e
        have ck := hc5 k hlt
        rw [YA.out k hlt] at ck
        have q3 := (QE.out.below HB.out).cell3
        have q2 := (QE.out.below HB.out).cell2
        have HC := Lib.hid (show wE.cell? ⟨b5, o5 + k, none⟩ = some (.int .i64 (stA s S k)) from ck)
        have HBL := Lib.hid hb5
        clear ck
        rcases Nat.eq_zero_or_pos k with h0 | h0
        · have CK := HC.out
          rw [show stA s S k = y by rw [h0]; rw [h0] at HYY; exact HYY.out.symm] at CK
          have CK := Lib.hid CK
          have e1 : decide ((0 : Int) < (k : Int)) = false := decide_eq_false (by omega)
          have e2 : decide (0 < k) = false := decide_eq_false (by omega)
          have H0 := Lib.hid h0
          clear h0
          have e3 : decide (y < y) = false := by simp
          have e4 : (y != y) = false := by simp
          clear HC q2
          go_upto_region 20 with fail
          refine wp_region_quiet_below (by kernel_rfl) (by kernel_rfl) ?_
          repeat (go_big_quiet_step (skip))
          refine wpQuiet_nil ?_
          intro _ hw'
          obtain ⟨⟨dq, osq⟩, hw''⟩ := hw'
          subst hw''
          have BR := below_regrown wr dq osq
          obtain ⟨V1, hV⟩ : ∃ X, X = Go.Sort.grow (redrawn wr dq) osq := ⟨_, rfl⟩
          rw [← hV] at BR ⊢
          have HB := Lib.hid (HB.out.trans (BR.mono HB.out.size))
          clear hV BR
          clear q3
          go_upto_region 22 with fail
          have c1 := (HB.out.cell (p := ⟨b5, o5 + k, none⟩) HBL.out).trans CK.out
          have E1 := fun d os => cell_regrown c1 d os
          clear c1
          refine wp_region_quiet_below (by kernel_rfl) (by kernel_rfl) ?_
          repeat (go_big_quiet_step (skip))
          refine wpQuiet_nil ?_
          intro _ hw'
          obtain ⟨⟨dq, osq⟩, hw''⟩ := hw'
          subst hw''
          have BR := below_regrown V1 dq osq
          obtain ⟨V2, hV⟩ : ∃ X, X = Go.Sort.grow (redrawn V1 dq) osq := ⟨_, rfl⟩
          rw [← hV] at BR ⊢
          have HB := Lib.hid (HB.out.trans (BR.mono HB.out.size))
          clear hV BR
          go_wp2_with fail
          go_roundw
          case rel => exact ⟨k + 1, by omega, by go_num, by rw [HM1.out], by rw [HM2.out, HM1.out], HB⟩
          case measure => simp [intOf]; omega
        obtain ⟨j, rfl⟩ : ∃ j, k = j + 1 := ⟨k - 1, by omega⟩
        have hiy := index_at (S := S) (k := j) (by omega)
        have cj := hc5 j (by omega)
        rw [YA.out j (by omega)] at cj
        have hst : stA s S (j + 1) = max (rdy s S (j + 1)) (stA s S j + gap s S (j + 1)) := rfl
        have hgp : gap s S (j + 1) = if bt S (j + 1) = bt S j then s.head else s.run := rfl
        have sj := stA_nonneg HT.out (k := j) (by omega)
        have gk := gap_range SG.out S (j + 1)
        have rk := HRR.out
        rw [← HX.out] at hgp
        rw [← HYY.out] at hst
        obtain ⟨p, hpx⟩ : ∃ x, x = bt S j := ⟨_, rfl⟩
        rw [← hpx] at hiy hgp
        obtain ⟨sj0, hsj⟩ : ∃ x, x = stA s S j := ⟨_, rfl⟩
        rw [← hsj] at sj hst cj
        obtain ⟨z, hz⟩ : ∃ x, x = stA s S (j + 1) := ⟨_, rfl⟩
        rw [← hz] at hst HC
        obtain ⟨kk, hkk⟩ : ∃ kk, kk = j + 1 := ⟨_, rfl⟩
        rw [← hkk] at hst hgp gk hix HX HYY HM1 HM2 HMK hlt hk hki HC ⊢
        have hw1 : IntKind.i64.wrap ((kk : Int) - 1) = (j : Int) := by rw [hkk, show (((j + 1 : Nat) : Int)) - 1 = (j : Int) by omega]; exact IntWalk.i64_in _ (by omega)
        have e1 : decide ((0 : Int) < (kk : Int)) = true := decide_eq_true (by omega)
        have e2 : decide (0 < kk) = true := decide_eq_true (by omega)
        have e0 : ((kk : Int) == 0) = false := beq_eq_false_iff_ne.2 (by omega)
        have e0' : (kk == 0) = false := beq_eq_false_iff_ne.2 (by omega)
        have HK := Lib.hid hkk
        have CJ := Lib.hid cj
        have hkN : kk < S.size := hlt
        have ij : (j : Int) < (S.size : Int) := by omega
        have ijn : j < S.size := by omega
        clear hpx hsj hkk h0 hz cj hc5
        by_cases hxp : x = p
        · have t1 : (x == p) = true := by simp [hxp]
          have t2 : (x != p) = false := by simp [hxp]
          rw [if_pos hxp] at hgp
          rw [hgp] at hst gk
          have f1 : decide (z < y) = false := decide_eq_false (by omega)
          have hw2 : IntKind.i64.wrap (z - sj0) = z - sj0 := IntWalk.i64_in _ (by omega)
          have f2 : decide (z - sj0 < s.head) = false := decide_eq_false (by omega)
          have F := Lib.hid (And.intro hw2 (And.intro f1 f2))
          have ZZ : z = y ∨ z - sj0 = s.head := by omega
          clear hst hgp hxp sj gk rk hw2 f1 f2
          go_upto_region 20 with fail
          refine wp_region_quiet_below (by kernel_rfl) (by kernel_rfl) ?_
          repeat (go_big_quiet_step (skip))
          refine wpQuiet_nil ?_
          intro _ hw'
          obtain ⟨⟨dq, osq⟩, hw''⟩ := hw'
          subst hw''
          have BR := below_regrown wr dq osq
          obtain ⟨V1, hV⟩ : ∃ X, X = Go.Sort.grow (redrawn wr dq) osq := ⟨_, rfl⟩
          rw [← hV] at BR ⊢
          have HB := Lib.hid (HB.out.trans (BR.mono HB.out.size))
          clear hV BR
          clear q2 q3
          have q2 := (QE.out.below HB.out).cell2
          go_upto_region 22 with fail
          have c1 := (HB.out.cell (p := ⟨b5, o5 + kk, none⟩) HBL.out).trans HC.out
          have c2 := (HB.out.cell (p := ⟨b5, o5 + j, none⟩) HBL.out).trans CJ.out
          have E1 := fun d os => cell_regrown c1 d os
          have E2 := fun d os => cell_regrown c2 d os
          clear c1 c2 q2
          have hw2 := F.out.1
          have f1 := F.out.2.1
          have f2 := F.out.2.2
          obtain ⟨V, HV⟩ : ∃ V, V = V1 := ⟨_, rfl⟩
          clear HV V
          by_cases hzz : z = y
          · have g1 : (z != y) = false := by simp [hzz]
            clear hzz ZZ
            refine wp_region_quiet_below (by kernel_rfl) (by kernel_rfl) ?_
            repeat (go_big_quiet_step (skip))
            refine wpQuiet_nil ?_
            intro _ hw'
            obtain ⟨⟨dq, osq⟩, hw''⟩ := hw'
            subst hw''
            have BR := below_regrown V1 dq osq
            obtain ⟨V2, hV⟩ : ∃ X, X = Go.Sort.grow (redrawn V1 dq) osq := ⟨_, rfl⟩
            rw [← hV] at BR ⊢
            have HB := Lib.hid (HB.out.trans (BR.mono HB.out.size))
            clear hV BR
            clear hw2 f1 f2 g1
            go_wp2_with fail
            go_roundw
            case rel => exact ⟨kk + 1, by omega, by go_num, by rw [HM1.out], by rw [HM2.out, HM1.out], HB⟩
            case measure => have := HK.out; simp [intOf]; omega
          · have g1 : (z != y) = true := by simp [hzz]
            have hz3 := ZZ.resolve_left hzz
            have g2 : (z - sj0 != s.head) = false := by simp [hz3]
            clear hz3 hzz ZZ
            refine wp_region_quiet_below (by kernel_rfl) (by kernel_rfl) ?_
            repeat (go_big_quiet_step (skip))
            refine wpQuiet_nil ?_
            intro _ hw'
            obtain ⟨⟨dq, osq⟩, hw''⟩ := hw'
            subst hw''
            have BR := below_regrown V1 dq osq
            obtain ⟨V2, hV⟩ : ∃ X, X = Go.Sort.grow (redrawn V1 dq) osq := ⟨_, rfl⟩
            rw [← hV] at BR ⊢
            have HB := Lib.hid (HB.out.trans (BR.mono HB.out.size))
            clear hV BR
            clear hw2 f1 f2 g1 g2
            go_wp2_with fail
            go_roundw
            case rel => exact ⟨kk + 1, by omega, by go_num, by rw [HM1.out], by rw [HM2.out, HM1.out], HB⟩
            case measure => have := HK.out; simp [intOf]; omega
        · have t1 : (x == p) = false := by simp [hxp]
          have t2 : (x != p) = true := by simp [hxp]
          rw [if_neg hxp] at hgp
          rw [hgp] at hst gk
          have f1 : decide (z < y) = false := decide_eq_false (by omega)
          have hw2 : IntKind.i64.wrap (z - sj0) = z - sj0 := IntWalk.i64_in _ (by omega)
          have f2 : decide (z - sj0 < s.run) = false := decide_eq_false (by omega)
          have F := Lib.hid (And.intro hw2 (And.intro f1 f2))
          have ZZ : z = y ∨ z - sj0 = s.run := by omega
          clear hst hgp hxp sj gk rk hw2 f1 f2
          go_upto_region 20 with fail
          refine wp_region_quiet_below (by kernel_rfl) (by kernel_rfl) ?_
          repeat (go_big_quiet_step (skip))
          refine wpQuiet_nil ?_
          intro _ hw'
          obtain ⟨⟨dq, osq⟩, hw''⟩ := hw'
          subst hw''
          have BR := below_regrown wr dq osq
          obtain ⟨V1, hV⟩ : ∃ X, X = Go.Sort.grow (redrawn wr dq) osq := ⟨_, rfl⟩
          rw [← hV] at BR ⊢
          have HB := Lib.hid (HB.out.trans (BR.mono HB.out.size))
          clear hV BR
          clear q2 q3
          have q2 := (QE.out.below HB.out).cell2
          go_upto_region 22 with fail
          have c1 := (HB.out.cell (p := ⟨b5, o5 + kk, none⟩) HBL.out).trans HC.out
          have c2 := (HB.out.cell (p := ⟨b5, o5 + j, none⟩) HBL.out).trans CJ.out
          have E1 := fun d os => cell_regrown c1 d os
          have E2 := fun d os => cell_regrown c2 d os
          clear c1 c2 q2
          have hw2 := F.out.1
          have f1 := F.out.2.1
          have f2 := F.out.2.2
          obtain ⟨V, HV⟩ : ∃ V, V = V1 := ⟨_, rfl⟩
          clear HV V
          by_cases hzz : z = y
          · have g1 : (z != y) = false := by simp [hzz]
            clear hzz ZZ
            refine wp_region_quiet_below (by kernel_rfl) (by kernel_rfl) ?_
            repeat (go_big_quiet_step (skip))
            refine wpQuiet_nil ?_
            intro _ hw'
            obtain ⟨⟨dq, osq⟩, hw''⟩ := hw'
            subst hw''
            have BR := below_regrown V1 dq osq
            obtain ⟨V2, hV⟩ : ∃ X, X = Go.Sort.grow (redrawn V1 dq) osq := ⟨_, rfl⟩
            rw [← hV] at BR ⊢
            have HB := Lib.hid (HB.out.trans (BR.mono HB.out.size))
            clear hV BR
            clear hw2 f1 f2 g1
            go_wp2_with fail
            go_roundw
            case rel => exact ⟨kk + 1, by omega, by go_num, by rw [HM1.out], by rw [HM2.out, HM1.out], HB⟩
            case measure => have := HK.out; simp [intOf]; omega
          · have g1 : (z != y) = true := by simp [hzz]
            have hz3 := ZZ.resolve_left hzz
            have g2 : (z - sj0 != s.run) = false := by simp [hz3]
            clear hz3 hzz ZZ
            refine wp_region_quiet_below (by kernel_rfl) (by kernel_rfl) ?_
            repeat (go_big_quiet_step (skip))
            refine wpQuiet_nil ?_
            intro _ hw'
            obtain ⟨⟨dq, osq⟩, hw''⟩ := hw'
            subst hw''
            have BR := below_regrown V1 dq osq
            obtain ⟨V2, hV⟩ : ∃ X, X = Go.Sort.grow (redrawn V1 dq) osq := ⟨_, rfl⟩
            rw [← hV] at BR ⊢
            have HB := Lib.hid (HB.out.trans (BR.mono HB.out.size))
            clear hV BR
            clear hw2 f1 f2 g1 g2
            go_wp2_with fail
            go_roundw
            case rel => exact ⟨kk + 1, by omega, by go_num, by rw [HM1.out], by rw [HM2.out, HM1.out], HB⟩
            case measure => have := HK.out; simp [intOf]; omega
    · obtain rfl : k = S.size := by omega
      have hff : decide ((S.size : Int) < (S.size : Int)) = false := decide_eq_false (by omega)
      have hup := OO.out.ups
      have hsz := OO.out.size
      have z0 := (QE.out.below HB.out).cell0
      have z1 := (QE.out.below HB.out).cell1
      obtain rfl := L1.out
      obtain rfl := L2.out
      have e2 : S.size - s.A.length = s.B.length := by omega
      rw [hup, e2]
      have t1 : ((s.A.length : Int) == (s.A.length : Int)) = true := by simp
      have t2 : ((s.B.length : Int) == (s.B.length : Int)) = true := by simp
      have BY := Lib.hid (BZ.out.trans (HB.out.mono BZ.out.size))
      clear hup hsz e2 hk hlt YN hn12
      go_wp2_with fail
      go_ret
      exact ⟨rfl, BY.out⟩

end Go.Proofs.Ytlcmkocbpnekhaa

namespace Go.Proofs.Ytlcmkocbpnekhaa.fnStarts
open Go.ChangeShapes Go.WideShapes Go.ChangeAt Go.RowKit
open Go.ChangeMaps (open_string shut_string)
set_option linter.unusedVariables false

theorem own : ownKnob Try.prog.godebug = none := by kernel_rfl
theorem laidOut : laidOutB Try.prog = true := by kernel_rfl

set_option maxRecDepth 100000 in
theorem lifted (os : Os) (started : os.Started) (H : Type) (enc : TypeId × Value → H) :
    ReturnsInHanded {} Try.checked os 3 .any (Rows.fnStartsSpec.pre6 enc Try.prog Try.f3 Rows.fnStartsRow.domain false) (Rows.fnStartsSpec.post enc Try.prog Try.f3 false true false false) := by
  refine returnsInHanded_of_change (C := Try.checked) own started (by kernel_rfl) Try.func3
    (ChangeSpec.witness6 (enc := enc) (C := Try.checked) false ⟨#[], #[.slice none 0 0], []⟩ 8 (by kernel_rfl) (by kernel_rfl) (by kernel_rfl) (by kernel_rfl)) ?_
  intro W base args ds gs before hval0 hW hcnd _
  have hval : ∀ (j : Nat) t v, Try.f3.params[j]? = some t → args[j]? = some v → Value.okWide Try.prog W .any base t v := hval0
  have hW' := hW
  obtain ⟨p, q, hA0, hV, rfl, hfz, hnd⟩ := hW
  have hA : DataW.TrodAll enc Try.prog W 0 (fun _ => true) true Try.f3.params.toList args.toList ds p := hA0
  rw [Try.params3] at hA hval
  obtain ⟨v0, vs0, d0, ds0, p0, q0, hargs, rfl, rfl, h0, r0⟩ := trodAll_cons hA
  obtain ⟨rfl, rfl, rfl⟩ := trodAll_nil r0
  obtain rfl : args = #[v0] := by cases args; simp_all
  obtain ⟨rfl, rfl⟩ := trodVars_none hV
  obtain ⟨a0, len0, cap0, rfl⟩ := okWide_slice Try.underlying22 (hval 0 22 v0 rfl rfl)
  have k0 := h0
  have lt0 : ∀ x ∈ p0, x.block < W.heap.size := by obtain ⟨m, hm⟩ := k0; exact DataW.trod_lt m _ _ _ hm
  obtain ⟨z0, w0⟩ : ∃ zs, IsRowK .u8 W a0 len0 cap0 zs := by
    obtain ⟨fuel, hf⟩ := h0
    rcases open_ints Try.underlying22 Try.underlying5 (by kernel_rfl) hf with ⟨hcs, _⟩ | ⟨x, l, c, zs, hcs, _, hl, hm, hz, _, hcell, hwz⟩
    · simp [Value.cells] at hcs
      obtain ⟨rfl, rfl, rfl⟩ := hcs
      exact ⟨[], .inl ⟨rfl, rfl, rfl, rfl⟩⟩
    · simp [Value.cells] at hcs
      obtain ⟨rfl, rfl, rfl⟩ := hcs
      exact ⟨zs, .inr ⟨_, rfl, hl, hm, by simpa using hz, hcell, hwz⟩⟩
  clear hA0 hval0
  refine (walk_FnStarts a0 len0 cap0 z0 W w0).mono fun e W' ⟨he, bel⟩ => ?_
  subst he
  exact ⟨_, rfl, _, _, _, [], _, [], hW', trodAll_mk1 (shut_bool Try.underlying4 _), (trodAll_cons_mk (Below.trod laidOut (by kernel_rfl) (of_decide_eq_true (by kernel_rfl)) k0 bel lt0) trodAll_mk0), rfl, bel.frame _, fun h => by cases h⟩

theorem closed : joinedFacts Try.checked.prog 3 Try.f3 Rows.fnStartsSpec Rows.fnStartsRow = true := by
  unfold joinedFacts
  simp only [Bool.and_eq_true]
  repeat' (refine And.intro ?_ ?_)
  all_goals first
    | with_reducible exact may_enter
    | (rw [lifts_final]; kernel_rfl)
    | (rw [make_is]; kernel_rfl)
    | kernel_rfl

theorem over : Rows.fnStartsRow.holds Try.pinned (OpenSpec.ofChange Rows.fnStartsSpec) :=
  OpenClaim.holds_of_wide 3 Try.f3 rfl rfl rfl rfl rfl rfl rfl ⟨rfl, rfl, rfl, rfl, rfl⟩ rfl rfl rfl rfl rfl (by kernel_rfl) Try.func3 closed
    (of_decide_eq_true (by kernel_rfl)) (by unfold Func.isWrapper; first | (rw [if_pos (by decide +kernel)]; kernel_rfl) | (rw [if_neg (by decide +kernel)]; exact ⟨rfl, rfl⟩))
    (fun os started H enc _ => lifted os started H enc)

theorem proved : Rows.FnStartsSaid := over
#print axioms proved
end Go.Proofs.Ytlcmkocbpnekhaa.fnStarts
