/-
  For every input the law 'FnSingleFirst' returns true, and each of its arguments reads behind the call as it read before. Conditions: none beyond those of the row.
-/
import Derived.Test.YtlcmkocbpnekhaaRows
import Derived.WalkKit
import Derived.ProofKit
import Derived.OpenShut
import Derived.ShutString
import Derived.ChangeOld
import Derived.Below
import Derived.Deep.Matrix
import Derived.Test.YtlcmkocbpnekhaaIo
import Derived.Test.YtlcmkocbpnekhaaDrGs
import Derived.Test.YtlcmkocbpnekhaaSgF1
import Derived.Test.YtlcmkocbpnekhaaSgT
import Derived.Test.YtlcmkocbpnekhaaSgF
import Derived.Test.YtlcmkocbpnekhaaSgG
import Derived.Deep.RegionHeld3
namespace Go.Proofs.Ytlcmkocbpnekhaa
open Go.RowKit

/-- When the train ahead is ready. -/
def lastR (s : Sg) (S : ByteArray) (k : Nat) : Int := if k = 0 then 0 else rdy s S (k - 1)
theorem lastR_zero (s : Sg) (S : ByteArray) : lastR s S 0 = 0 := rfl
theorem lastR_succ (s : Sg) (S : ByteArray) (k : Nat) : lastR s S (k + 1) = rdy s S k := by simp [lastR]
theorem last_le {s : Sg} (h : sgB s = true) {k : Nat} (hk : k < (fsV s).size) : lastR s (fsV s) k ≤ rdy s (fsV s) k := by
  have hz := fs_size h
  have hr := rdy_range (fs_sgO h) hk
  rcases k with _ | k
  · rw [lastR_zero]; exact hr.1
  · rw [lastR_succ, fsV_yes h]
    exact fs_rise h rfl (by omega)

set_option maxRecDepth 100000 in
set_option maxHeartbeats 8000000 in
theorem walk_FnSingleFirst (a0 : Option Addr) (len0 cap0 : Nat) (z0 : List Int) (w : World) (w0 : IsRowK .u8 w a0 len0 cap0 z0) :
    Calls Try.prog 7 #[.slice a0 len0 cap0] w fun e w' => e = .returned (.bool true) ∧ Below w.heap.size w w' := by
  rcases Nat.lt_or_ge 1048576 len0 with hbig | hsm
  · have hb : (1048576 : Int) < (len0 : Int) := by omega
    go_enter Try.func7, Try.ntmps7
    go_wp2_with fail
    go_ret
    exact ⟨rfl, Below.refl _ _⟩
  have hb : (len0 : Int) ≤ 1048576 := by omega
  have DN := Lib.hid (drawSFirst w0 hsm)
  clear w0
  go_enter Try.func7, Try.ntmps7
  go_upto_region 4 with (go_at_call 29; refine DN.out.mono ?_; rintro e wA ⟨v, s, rfl, os, ss, bA⟩; obtain ⟨a1, n1, c1, a2, n2, c2, rfl⟩ := os.form)
  have qB0 := Quad.new wA (.slice a1 n1 c1) (.slice a2 n2 c2) (.int .i64 s.run) (.int .i64 s.head) 25
  have bB := below_alloc wA (.cells #[.slice a1 n1 c1, .slice a2 n2 c2, .int .i64 s.run, .int .i64 s.head] 25)
  have sv := (os.sgV (by have := ss.la; omega) (by have := ss.lb; omega)).below bB
  obtain ⟨wB, hwB⟩ : ∃ X, X = wA.alloc (.cells #[.slice a1 n1 c1, .slice a2 n2 c2, .int .i64 s.run, .int .i64 s.head] 25) := ⟨_, rfl⟩
  rw [← hwB] at qB0 bB sv ⊢
  have BB := Lib.hid (bA.trans (bB.mono bA.size))
  have QB := Lib.hid qB0
  have IE := Lib.hid (fun (X : World) (b : Below wB.heap.size wB X) => implFirst (sv.below b))
  have SE := Lib.hid (fun (X : World) (b : Below wB.heap.size wB X) => specFirst (sv.below b))
  have IB := Lib.hid (fun (X : World) (b : Below wB.heap.size wB X) => implBest (sv.below b))
  have IW := Lib.hid (fun (X : World) (b : Below wB.heap.size wB X) (o : ByteArray) (ho : o.size ≤ 12) => implWait (S := o) (sv.below b) (by omega))
  obtain ⟨i1, i2⟩ : Ints wB (.slice a1 n1 c1) s.A ∧ Ints wB (.slice a2 n2 c2) s.B := by
    obtain ⟨x, y, e, i1, i2⟩ := sv
    simp only [Value.agg.injEq, Array.mk.injEq, List.cons.injEq, and_true] at e
    obtain ⟨rfl, rfl, -⟩ := e
    exact ⟨i1, i2⟩
  have I1 := Lib.hid i1
  have I2 := Lib.hid i2
  have sl := fun (X : World) (b : Below wB.heap.size wB X) => show SgV X (.agg #[.slice a1 n1 c1, .slice a2 n2 c2, .int .i64 s.run, .int .i64 s.run]) ⟨s.A, s.B, s.run, s.run⟩ from ⟨_, _, rfl, i1.below b, i2.below b⟩
  have JE := Lib.hid (fun (X : World) (b : Below wB.heap.size wB X) (o : ByteArray) (ho : o.size ≤ 12) => implEnd (S := o) (sl X b) (by omega))
  have JS := Lib.hid (fun (X : World) (b : Below wB.heap.size wB X) => implSoon (sl X b))
  obtain ⟨S, hS⟩ : ∃ m, m = fsV s := ⟨_, rfl⟩
  have HS := Lib.hid hS
  obtain ⟨t, ht⟩ : ∃ m, m = sgB s := ⟨_, rfl⟩
  rw [← hS, ← ht] at IE SE
  have k0 := QB.out.cell0
  have k1 := QB.out.cell1
  have k2 := QB.out.cell2
  have k3 := QB.out.cell3
  have HT0 := Lib.hid ht.symm
  clear hS ht hwB qB0 bB sv os ss bA i1 i2 sl
  go_upto_region 5 with (go_at_call 30; refine (IE.out _ (below_self _)).mono ?_; rintro e wC ⟨rfl, bC⟩)
  have l0 := (QB.out.below bC).cell0
  have l1 := (QB.out.below bC).cell1
  have l2 := (QB.out.below bC).cell2
  have l3 := (QB.out.below bC).cell3
  have BC := Lib.hid bC
  clear k0 k1 k2 k3 bC
  go_upto_region 6 with (go_at_call 31; refine (SE.out _ BC.out).mono ?_; rintro e wE ⟨rfl, bD⟩)
  have BE := Lib.hid (BC.out.trans (bD.mono BC.out.size))
  clear l0 l1 l2 l3 bD BC
  have u1 : (S.toList != S.toList) = false := by simp
  have u2 : (S.toList == S.toList) = true := by simp
  cases t
  · go_wp2_with fail
    go_ret
    exact ⟨rfl, BB.out.trans (BE.out.mono BB.out.size)⟩
  have HT := Lib.hid (show sgO s S = true by rw [HS.out]; exact fs_sgO HT0.out)
  have LL := Lib.hid (fun (k : Nat) (hk : k < S.size) => show lastR s S k ≤ rdy s S k by rw [HS.out]; exact last_le HT0.out (by rw [← HS.out]; exact hk))
  have L1 := Lib.hid (show n1 = s.A.length from slice_len I1.out)
  have L2 := Lib.hid (show n2 = s.B.length from slice_len I2.out)
  have hn12 : (S.size : Int) ≤ 12 := by have := sgO_size HT.out; omega
  have QE := Lib.hid (QB.out.below BE.out)
  have J1 := Lib.hid (I1.out.below BE.out)
  have J2 := Lib.hid (I2.out.below BE.out)
  have BZ := Lib.hid (BB.out.trans (BE.out.mono BB.out.size))
  have OO := Lib.hid (sgO_of HT.out).2
  have SG := Lib.hid (sgO_of HT.out).1
  have EE := Lib.hid (below_self wE)
  have RN := Lib.hid (fun (k : Nat) => lastR_succ s S k)
  clear IE SE
  go_wp2_with fail
  go_loopw [8, 9, 10, 11] (fun a b la i wr => ∃ k : Nat, k ≤ S.size ∧ i = .int .i64 k ∧ a = .int .i64 (upTo S k : Nat) ∧ b = .int .i64 ((k - upTo S k : Nat) : Int) ∧ la = .int .i64 (lastR s S k) ∧ Hid (Below wE.heap.size wE wr)) (fun _ _ _ i _ => S.size - (intOf i).toNat)
  case atStart => exact ⟨0, Nat.zero_le _, rfl, rfl, rfl, rfl, EE⟩
  case round =>
    obtain ⟨k, hk, rfl, rfl, rfl, rfl, HB⟩ := hrel
    by_cases hlt : k < S.size
    · have hki : (k : Int) < (S.size : Int) := by omega
      have hix := index_at hlt
      have UU := Lib.hid (@upTo_U S k)
      have UD := Lib.hid (@upTo_D S k)
      have hup := upTo_le S k
      have uk := OO.out.upAt hlt
      have dk := OO.out.downAt hlt
      have RU := Lib.hid (@rdy_U s S k)
      have RD := Lib.hid (@rdy_D s S k)
      have RR := rdy_range HT.out hlt
      have z0 := (QE.out.below HB.out).cell0
      have z1 := (QE.out.below HB.out).cell1
      have AB : ∃ (m m2 : Nat), m = upTo S (k + 1) ∧ m2 = k + 1 - upTo S (k + 1) := ⟨_, _, rfl, rfl⟩
      obtain ⟨m', m2', hm', hm2'⟩ := AB
      rw [← hm'] at UU UD hm2'
      have HM1 := Lib.hid hm'
      clear hm'
      obtain ⟨m, hm⟩ : ∃ m, m = upTo S k := ⟨_, rfl⟩
      rw [← hm] at UU UD hup uk dk RU RD ⊢
      obtain ⟨x, hx⟩ : ∃ x, x = bt S k := ⟨_, rfl⟩
      rw [← hx] at hix UU UD uk dk RU RD
      obtain ⟨y, hy⟩ : ∃ y, y = rdy s S k := ⟨_, rfl⟩
      rw [← hy] at RU RD RR
      have HX := Lib.hid hx
      have HYY := Lib.hid hy
      have HMK := Lib.hid (And.intro hm hup)
      have HM2 := Lib.hid hm2'
      have HRR := Lib.hid RR
      clear hx hy hm hm2' RR
      have hmS : (m : Int) ≤ 12 := by omega
      have hkS : ((k - m : Nat) : Int) ≤ 12 := by omega
      have LK := LL.out k hlt
      rw [← HYY.out] at LK
      have NX := RN.out k
      rw [← HYY.out] at NX
      have HNX := Lib.hid NX
      obtain ⟨la, hla⟩ : ∃ x, x = lastR s S k := ⟨_, rfl⟩
      rw [← hla] at LK ⊢
      clear hla NX
      go_upto_region 15 with fail
      obtain ⟨tx, htx⟩ : ∃ t, t = (x == 85) := ⟨_, rfl⟩
      have TX := htx.symm
      have HTX := Lib.hid htx
      clear htx
      go_cut [60] (fun v wx => v = .bool tx ∧ wr = wx)
      case first =>
        go_wp2_with fail
        go_meet
        exact ⟨rfl, rfl⟩
      case rest =>
      obtain ⟨rfl, rfl⟩ := hcut
      rename_i K1 hK1
      refine hK1 _ _ ?_
      clear hK1
      go_cut [8, 9, 12] (fun ua ub rd wx => ua = .int .i64 (m' : Int) ∧ ub = .int .i64 (m2' : Int) ∧ rd = .int .i64 y ∧ wr = wx)
      case first =>
        by_cases h1 : x = 85
        · have q1 := UU.out h1
          have hmA := uk h1
          obtain ⟨b, o, c1', e, hb, hc⟩ := ints_at J1.out (by omega)
          simp only [Value.slice.injEq] at e
          obtain ⟨rfl, rfl, rfl⟩ := e
          have hcell := (HB.out.cell (p := ⟨b, o + m, none⟩) hb).trans (hc m hmA)
          rw [← RU.out h1] at hcell
          have hmi : (m : Int) < (s.A.length : Int) := by omega
          have E1 := Lib.hid (show (m : Int) + 1 = (m' : Int) by omega)
          have E2 := Lib.hid (show ((k - m : Nat) : Int) = (m2' : Int) by have := HM2.out; have := HMK.out.2; omega)
          obtain rfl : tx = true := by rw [HTX.out]; simp [h1]
          clear hc uk dk q1 hup h1 TX
          go_wp2_with fail
          go_meet
          exact ⟨by rw [E1.out], by rw [E2.out], rfl, rfl⟩
        · have q1 := UD.out h1
          have hmB := dk h1
          obtain ⟨b, o, c1', e, hb, hc⟩ := ints_at J2.out (by omega)
          simp only [Value.slice.injEq] at e
          obtain ⟨rfl, rfl, rfl⟩ := e
          obtain rfl : tx = false := by rw [HTX.out]; simp [h1]
          have hcell := (HB.out.cell (p := ⟨b, o + (k - m), none⟩) hb).trans (hc (k - m) hmB)
          rw [← RD.out h1] at hcell
          have E1 := Lib.hid (show (m : Int) = (m' : Int) by omega)
          have E2 := Lib.hid (show ((k - m : Nat) : Int) + 1 = (m2' : Int) by have := HM2.out; have := HMK.out.2; omega)
          obtain ⟨d, hd2⟩ : ∃ d, d = k - m := ⟨_, rfl⟩
          rw [← hd2] at hcell hmB E2 hkS ⊢
          have hmi : (d : Int) < (s.B.length : Int) := by omega
          clear hc uk dk q1 hup h1 hd2 TX
          go_wp2_with fail
          go_meet
          exact ⟨by rw [E1.out], by rw [E2.out], rfl, rfl⟩
      case rest =>
        obtain ⟨rfl, rfl, rfl, rfl⟩ := hcut
        have e1 : decide (y < la) = false := decide_eq_false (by omega)
        clear z0 z1 UU UD uk dk hup TX LK
        go_wp2_with fail
        go_roundw
        case rel => exact ⟨k + 1, by omega, by go_num, by rw [HM1.out], by rw [HM2.out, HM1.out], by rw [HNX.out], HB⟩
        case measure => simp [intOf]; omega
    · obtain rfl : k = S.size := by omega
      have hff : decide ((S.size : Int) < (S.size : Int)) = false := decide_eq_false (by omega)
      have QW := Lib.hid (QE.out.below HB.out)
      have d0 := QW.out.cell0
      have d1 := QW.out.cell1
      have d2 := QW.out.cell2
      have d3 := QW.out.cell3
      have qv := Quad.new wr (.slice a1 n1 c1) (.slice a2 n2 c2) (.int .i64 s.run) (.int .i64 s.head) 25
      have bv := below_alloc wr (.cells #[.slice a1 n1 c1, .slice a2 n2 c2, .int .i64 s.run, .int .i64 s.head] 25)
      obtain ⟨V, hV⟩ : ∃ X, X = wr.alloc (.cells #[.slice a1 n1 c1, .slice a2 n2 c2, .int .i64 s.run, .int .i64 s.head] 25) := ⟨_, rfl⟩
      rw [← hV] at qv bv
      have HV := Lib.hid hV.symm
      have f0 := (QW.out.below bv).cell2
      have f2 := qv.frozen 3
      have f1 := qv.cell3
      have q2 := qv.set3 (.int .i64 s.run)
      have HBB := Lib.hid (BE.out.trans (HB.out.mono BE.out.size))
      have bw := HBB.out.trans ((bv.setCell (p := ⟨wr.heap.size, 3, none⟩) (Nat.le_refl _) (.int .i64 s.run)).mono HBB.out.size)
      have hlt0 : wA.heap.size < wr.heap.size := QW.out.lt
      have qo := (QW.out.below bv).other (a := ⟨wr.heap.size, 3, none⟩) (by simp only; omega) (.int .i64 s.run)
      obtain ⟨X1, hX1⟩ : ∃ X, X = V.setCell ⟨wr.heap.size, 3, none⟩ (.int .i64 s.run) := ⟨_, rfl⟩
      rw [← hX1] at q2 bw qo
      have HX1 := Lib.hid hX1.symm
      have h0 := qo.cell0
      have h1 := qo.cell1
      have h2 := qo.cell2
      have h3 := qo.cell3
      have QO := Lib.hid qo
      have Q2 := Lib.hid q2
      have BW := Lib.hid bw
      have IB2 := IB.out
      rw [HT0.out] at IB2
      have OZ : (bestV s).size ≤ 12 := by have := best_size HT0.out; have := sgO_size HT.out; have := OO.out.size; omega
      have hBL := best_le HT.out
      have hSL := slow_soon HT0.out
      rw [← HS.out] at hSL
      obtain ⟨O, hO⟩ : ∃ O, O = bestV s := ⟨_, rfl⟩
      rw [← hO] at IB2 OZ hBL
      have IB2 := Lib.hid IB2
      have hSz : S.size ≤ 12 := by omega
      have IW1 := fun (X : World) (b : Below wB.heap.size wB X) => IW.out X b S hSz
      have IW2 := fun (X : World) (b : Below wB.heap.size wB X) => IW.out X b O OZ
      have JE1 := fun (X : World) (b : Below wB.heap.size wB X) => JE.out X b S hSz
      have JS1 := fun (X : World) (b : Below wB.heap.size wB X) => JS.out X b
      rw [hSL] at JE1
      obtain ⟨wa, hwa⟩ : ∃ x, x = waitV s S := ⟨_, rfl⟩
      obtain ⟨wb, hwb⟩ : ∃ x, x = waitV s O := ⟨_, rfl⟩
      obtain ⟨so, hso⟩ : ∃ x, x = soonV ⟨s.A, s.B, s.run, s.run⟩ := ⟨_, rfl⟩
      rw [← hwa] at IW1 hBL
      rw [← hwb] at IW2 hBL
      rw [← hso] at JE1 JS1
      have IW1 := Lib.hid IW1
      have IW2 := Lib.hid IW2
      have JE1 := Lib.hid JE1
      have JS1 := Lib.hid JS1
      have e1 : decide (wb ≤ wa) = true := decide_eq_true hBL.2.1
      have e2 : (so == so) = true := by simp
      have hle := hBL.2.1
      clear hSL hV qv bv q2 bw qo hX1 hO OZ hBL hwa hwb hso hk hlt hlt0 hSz hn12
      go_upto_region 24 with fail
      rw [HV.out]
      go_upto_region 25 with fail
      rw [HX1.out]
      clear d0 d1 d2 d3 f0 f1 f2
      go_upto_region 26 with (go_at_call 23; refine (IB2.out _ BW.out).mono ?_; rintro e wF ⟨rfl, bF⟩)
      have P6 := QO.out.below bF
      have P7 := Q2.out.below bF
      clear h0 h1 h2 h3
      have BF := Lib.hid (BW.out.trans (bF.mono BW.out.size))
      have c0 := P6.cell0
      have c1' := P6.cell1
      have c2' := P6.cell2
      have c3 := P6.cell3
      have g0 := P7.cell0
      have g1 := P7.cell1
      have g2 := P7.cell2
      have g3 := P7.cell3
      have F0 := fun d os => cell_regrown c0 d os
      have F1 := fun d os => cell_regrown c1' d os
      have F2 := fun d os => cell_regrown c2' d os
      have F3 := fun d os => cell_regrown c3 d os
      have G0 := fun d os => cell_regrown g0 d os
      have G1 := fun d os => cell_regrown g1 d os
      have G2 := fun d os => cell_regrown g2 d os
      have G3 := fun d os => cell_regrown g3 d os
      have BG := fun d os => (BF.out.trans ((below_regrown wF d os).mono BF.out.size))
      have R1 := Lib.hid (fun (d : Nat) (os : Array Obj) => Calls.regrown_of (IW1.out _ (BG d os)))
      have R2 := Lib.hid (fun (d : Nat) (os : Array Obj) => Calls.regrown_of (IW2.out _ (BG d os)))
      have R3 := Lib.hid (fun (d : Nat) (os : Array Obj) => Calls.regrown_of (JE1.out _ (BG d os)))
      have R4 := Lib.hid (fun (d : Nat) (os : Array Obj) => Calls.regrown_of (JS1.out _ (BG d os)))
      clear P6 P7 c0 c1' c2' c3 g0 g1 g2 g3 BG bF
      refine wp_region_quiet_below (by kernel_rfl) (by kernel_rfl) ?_
      repeat (go_big_quiet_step (first | (with_reducible exact R1.out _ _) | (with_reducible exact R2.out _ _) | (with_reducible exact R3.out _ _) | (with_reducible exact R4.out _ _)))
      refine wpQuiet_nil ?_
      intro _ hw'
      obtain ⟨⟨dq, osq⟩, hw''⟩ := hw'
      subst hw''
      have BR := below_regrown wF dq osq
      clear F0 F1 F2 F3 G0 G1 G2 G3
      go_wp2_with fail
      go_ret
      exact ⟨rfl, BB.out.trans ((BF.out.trans (BR.mono BF.out.size)).mono BB.out.size)⟩

end Go.Proofs.Ytlcmkocbpnekhaa

namespace Go.Proofs.Ytlcmkocbpnekhaa.fnSingleFirst
open Go.ChangeShapes Go.WideShapes Go.ChangeAt Go.RowKit
open Go.ChangeMaps (open_string shut_string)
set_option linter.unusedVariables false

theorem own : ownKnob Try.prog.godebug = none := by kernel_rfl
theorem laidOut : laidOutB Try.prog = true := by kernel_rfl

set_option maxRecDepth 100000 in
theorem lifted (os : Os) (started : os.Started) (H : Type) (enc : TypeId × Value → H) :
    ReturnsInHanded {} Try.checked os 7 .any (Rows.fnSingleFirstSpec.pre6 enc Try.prog Try.f7 Rows.fnSingleFirstRow.domain false) (Rows.fnSingleFirstSpec.post enc Try.prog Try.f7 false true false false) := by
  refine returnsInHanded_of_change (C := Try.checked) own started (by kernel_rfl) Try.func7
    (ChangeSpec.witness6 (enc := enc) (C := Try.checked) false ⟨#[], #[.slice none 0 0], []⟩ 8 (by kernel_rfl) (by kernel_rfl) (by kernel_rfl) (by kernel_rfl)) ?_
  intro W base args ds gs before hval0 hW hcnd _
  have hval : ∀ (j : Nat) t v, Try.f7.params[j]? = some t → args[j]? = some v → Value.okWide Try.prog W .any base t v := hval0
  have hW' := hW
  obtain ⟨p, q, hA0, hV, rfl, hfz, hnd⟩ := hW
  have hA : DataW.TrodAll enc Try.prog W 0 (fun _ => true) true Try.f7.params.toList args.toList ds p := hA0
  rw [Try.params7] at hA hval
  obtain ⟨v0, vs0, d0, ds0, p0, q0, hargs, rfl, rfl, h0, r0⟩ := trodAll_cons hA
  obtain ⟨rfl, rfl, rfl⟩ := trodAll_nil r0
  obtain rfl : args = #[v0] := by cases args; simp_all
  obtain ⟨rfl, rfl⟩ := trodVars_none hV
  obtain ⟨a0, len0, cap0, rfl⟩ := okWide_slice Try.underlying22 (hval 0 22 v0 rfl rfl)
  have k0 := h0
  have lt0 : ∀ x ∈ p0, x.block < W.heap.size := by obtain ⟨m, hm⟩ := k0; exact DataW.trod_lt m _ _ _ hm
  obtain ⟨z0, w0⟩ : ∃ zs, IsRowK .u8 W a0 len0 cap0 zs := by
    obtain ⟨fuel, hf⟩ := h0
    rcases open_ints Try.underlying22 Try.underlying5 (by kernel_rfl) hf with ⟨hcs, _⟩ | ⟨x, l, c, zs, hcs, _, hl, hm, hz, _, hcell, hwz⟩
    · simp [Value.cells] at hcs
      obtain ⟨rfl, rfl, rfl⟩ := hcs
      exact ⟨[], .inl ⟨rfl, rfl, rfl, rfl⟩⟩
    · simp [Value.cells] at hcs
      obtain ⟨rfl, rfl, rfl⟩ := hcs
      exact ⟨zs, .inr ⟨_, rfl, hl, hm, by simpa using hz, hcell, hwz⟩⟩
  clear hA0 hval0
  refine (walk_FnSingleFirst a0 len0 cap0 z0 W w0).mono fun e W' ⟨he, bel⟩ => ?_
  subst he
  exact ⟨_, rfl, _, _, _, [], _, [], hW', trodAll_mk1 (shut_bool Try.underlying4 _), (trodAll_cons_mk (Below.trod laidOut (by kernel_rfl) (of_decide_eq_true (by kernel_rfl)) k0 bel lt0) trodAll_mk0), rfl, bel.frame _, fun h => by cases h⟩

theorem closed : joinedFacts Try.checked.prog 7 Try.f7 Rows.fnSingleFirstSpec Rows.fnSingleFirstRow = true := by
  unfold joinedFacts
  simp only [Bool.and_eq_true]
  repeat' (refine And.intro ?_ ?_)
  all_goals first
    | with_reducible exact may_enter
    | (rw [lifts_final]; kernel_rfl)
    | (rw [make_is]; kernel_rfl)
    | kernel_rfl

theorem over : Rows.fnSingleFirstRow.holds Try.pinned (OpenSpec.ofChange Rows.fnSingleFirstSpec) :=
  OpenClaim.holds_of_wide 7 Try.f7 rfl rfl rfl rfl rfl rfl rfl ⟨rfl, rfl, rfl, rfl, rfl⟩ rfl rfl rfl rfl rfl (by kernel_rfl) Try.func7 closed
    (of_decide_eq_true (by kernel_rfl)) (by unfold Func.isWrapper; first | (rw [if_pos (by decide +kernel)]; kernel_rfl) | (rw [if_neg (by decide +kernel)]; exact ⟨rfl, rfl⟩))
    (fun os started H enc _ => lifted os started H enc)

theorem proved : Rows.FnSingleFirstSaid := over
#print axioms proved
end Go.Proofs.Ytlcmkocbpnekhaa.fnSingleFirst
