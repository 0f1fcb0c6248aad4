/-
  For every input the law 'FnSingleEnd' returns true, and each of its arguments reads behind the call as it read before. Conditions: none beyond those of the row.
-/
import Derived.Test.YtchnaceihmepkaaRows
import Derived.WalkKit
import Derived.ProofKit
import Derived.OpenShut
import Derived.ShutString
import Derived.ChangeOld
import Derived.Below
import Derived.Deep.Matrix
import Derived.Test.YtchnaceihmepkaaIo
import Derived.Test.YtchnaceihmepkaaDrOs
import Derived.Test.YtchnaceihmepkaaSgO
import Derived.Test.YtchnaceihmepkaaSgQ
import Derived.Deep.RegionHeld3
namespace Go.Proofs.Ytchnaceihmepkaa
open Go.RowKit

theorem stA_mono {s : Sg} {S : ByteArray} (h : SgOk s) {j k : Nat} (hjk : j ≤ k) : stA s S j ≤ stA s S k := by
  induction k with
  | zero => obtain rfl : j = 0 := by omega
            exact Int.le_refl _
  | succ k ih =>
    rcases Nat.lt_or_ge j (k + 1) with q | q
    · have := ih (by omega)
      have g := (gap_range h S (k + 1)).1
      simp only [stA]; omega
    · obtain rfl : j = k + 1 := by omega
      exact Int.le_refl _
theorem nth_up (S : ByteArray) (n i : Nat) (h : i < upTo S n) : ∃ k, k < n ∧ bt S k = 85 ∧ upTo S k = i := by
  induction n with
  | zero => exact absurd h (Nat.not_lt_zero _)
  | succ n ih =>
    rcases Nat.lt_or_ge i (upTo S n) with q | q
    · obtain ⟨k, a, b⟩ := ih q; exact ⟨k, by omega, b⟩
    · by_cases e : bt S n = 85
      · rw [upTo_U e] at h; exact ⟨n, by omega, e, by omega⟩
      · rw [upTo_D e] at h; omega
theorem nth_dn (S : ByteArray) (n i : Nat) (h : i < n - upTo S n) : ∃ k, k < n ∧ bt S k ≠ 85 ∧ k - upTo S k = i := by
  induction n with
  | zero => exact absurd h (Nat.not_lt_zero _)
  | succ n ih =>
    have hl := upTo_le S n
    rcases Nat.lt_or_ge i (n - upTo S n) with q | q
    · obtain ⟨k, a, b⟩ := ih q; exact ⟨k, by omega, b⟩
    · by_cases e : bt S n = 85
      · rw [upTo_U e] at h; omega
      · rw [upTo_D e] at h; exact ⟨n, by omega, e, by omega⟩
theorem end_ge {s : Sg} {S : ByteArray} (h : sgO s S = true) {n : Nat} (hn : S.size = n + 1) : (∀ i, i < s.A.length → s.A.getD i 0 + s.run ≤ endV s S) ∧ (∀ i, i < s.B.length → s.B.getD i 0 + s.run ≤ endV s S) := by
  obtain ⟨o1, o2⟩ := sgO_of h
  rw [endV_yes h hn]
  constructor
  · intro i hi
    obtain ⟨k, hk, e, u⟩ := nth_up S S.size i (by rw [o2.ups]; exact hi)
    have a := (stA_range h hk).1
    rw [rdy_U e, u] at a
    have b := stA_mono (S := S) o1 (j := k) (k := n) (by omega)
    omega
  · intro i hi
    obtain ⟨k, hk, e, u⟩ := nth_dn S S.size i (by rw [o2.ups]; have := o2.size; omega)
    have a := (stA_range h hk).1
    rw [rdy_D e, u] at a
    have b := stA_mono (S := S) o1 (j := k) (k := n) (by omega)
    omega
theorem longer_end {s : Sg} {S : ByteArray} (h : sgO s S = true) {n : Nat} (hn : S.size = n + 1) : (s.run = 100 ∧ endV ⟨s.A, s.B, s.run + 1, s.head⟩ S = -1) ∨ (s.run ≠ 100 ∧ endV s S < endV ⟨s.A, s.B, s.run + 1, s.head⟩ S) := by
  obtain ⟨o1, o2⟩ := sgO_of h
  by_cases hr : s.run = 100
  · refine .inl ⟨hr, endV_no (sgO_bad ?_)⟩
    cases q : sgB ⟨s.A, s.B, s.run + 1, s.head⟩
    · rfl
    · have := (sgB_of q).run2; simp only at this; omega
  · refine .inr ⟨hr, ?_⟩
    have ho : sgO ⟨s.A, s.B, s.run + 1, s.head⟩ S = true := sgO_yes (sgB_yes ⟨o1.a, o1.b, by have := o1.run1; simp only; omega, by have := o1.run2; simp only; omega, o1.head1, by have := o1.head2; simp only; omega⟩) (ordB_yes o2)
    rw [endV_yes h hn, endV_yes ho hn]
    have hge : ∀ k, stA s S k ≤ stA ⟨s.A, s.B, s.run + 1, s.head⟩ S k := by
      intro k
      induction k with
      | zero => exact Int.le_refl _
      | succ k ih =>
        have e : rdy ⟨s.A, s.B, s.run + 1, s.head⟩ S (k + 1) = rdy s S (k + 1) := rfl
        have g : gap s S (k + 1) ≤ gap ⟨s.A, s.B, s.run + 1, s.head⟩ S (k + 1) := by unfold gap; split <;> simp only <;> omega
        simp only [stA]
        rw [e]; omega
    have := hge n
    simp only; omega

set_option maxRecDepth 100000 in
set_option maxHeartbeats 8000000 in
theorem walk_FnSingleEnd (a0 : Option Addr) (len0 cap0 : Nat) (z0 : List Int) (w : World) (w0 : IsRowK .u8 w a0 len0 cap0 z0) :
    Calls Try.prog 5 #[.slice a0 len0 cap0] w fun e w' => e = .returned (.bool true) ∧ Below w.heap.size w w' := by
  rcases Nat.lt_or_ge 1048576 len0 with hbig | hsm
  · have hb : (1048576 : Int) < (len0 : Int) := by omega
    go_enter Try.func5, Try.ntmps5
    go_wp2_with fail
    go_ret
    exact ⟨rfl, Below.refl _ _⟩
  have hb : (len0 : Int) ≤ 1048576 := by omega
  have DN := Lib.hid (drawOEnd w0 hsm)
  clear w0
  go_enter Try.func5, Try.ntmps5
  go_upto_region 4 with (go_at_call 24; refine DN.out.mono ?_; rintro e wA ⟨v, s, S, rfl, os, ss, hS, bA⟩; obtain ⟨a1, n1, c1, a2, n2, c2, rfl⟩ := os.form)
  have qB0 := Quad.new wA (.slice a1 n1 c1) (.slice a2 n2 c2) (.int .i64 s.run) (.int .i64 s.head) 25
  have bB := below_alloc wA (.cells #[.slice a1 n1 c1, .slice a2 n2 c2, .int .i64 s.run, .int .i64 s.head] 25)
  have sv := (os.sgV (by have := ss.la; omega) (by have := ss.lb; omega)).below bB
  obtain ⟨wB, hwB⟩ : ∃ X, X = wA.alloc (.cells #[.slice a1 n1 c1, .slice a2 n2 c2, .int .i64 s.run, .int .i64 s.head] 25) := ⟨_, rfl⟩
  rw [← hwB] at qB0 bB sv ⊢
  have BB := Lib.hid (bA.trans (bB.mono bA.size))
  have QB := Lib.hid qB0
  have IE := Lib.hid (fun (X : World) (b : Below wB.heap.size wB X) => implEnd (S := S) (sv.below b) (by omega))
  have SE := Lib.hid (fun (X : World) (b : Below wB.heap.size wB X) => specEnd (S := S) (sv.below b) (by omega))
  obtain ⟨i1, i2⟩ : Ints wB (.slice a1 n1 c1) s.A ∧ Ints wB (.slice a2 n2 c2) s.B := by
    obtain ⟨x, y, e, i1, i2⟩ := sv
    simp only [Value.agg.injEq, Array.mk.injEq, List.cons.injEq, and_true] at e
    obtain ⟨rfl, rfl, -⟩ := e
    exact ⟨i1, i2⟩
  have IL := Lib.hid (fun (X : World) (b : Below wB.heap.size wB X) => implEnd (S := S) (s := ⟨s.A, s.B, s.run + 1, s.head⟩) (w := X) (v := .agg #[.slice a1 n1 c1, .slice a2 n2 c2, .int .i64 (s.run + 1), .int .i64 s.head]) ⟨_, _, rfl, i1.below b, i2.below b⟩ (by omega))
  have I1 := Lib.hid i1
  have I2 := Lib.hid i2
  obtain ⟨m, hm⟩ : ∃ m, m = endV s S := ⟨_, rfl⟩
  have HM := Lib.hid hm
  rw [← hm] at IE SE
  have k0 := QB.out.cell0
  have k1 := QB.out.cell1
  have k2 := QB.out.cell2
  have k3 := QB.out.cell3
  have HS := Lib.hid hS
  clear hm hwB qB0 bB sv os ss bA i1 i2
  go_upto_region 5 with (go_at_call 22; refine (IE.out _ (below_self _)).mono ?_; rintro e wC ⟨rfl, bC⟩)
  have l0 := (QB.out.below bC).cell0
  have l1 := (QB.out.below bC).cell1
  have l2 := (QB.out.below bC).cell2
  have l3 := (QB.out.below bC).cell3
  have BC := Lib.hid bC
  clear k0 k1 k2 k3 bC
  go_upto_region 6 with (go_at_call 25; refine (SE.out _ BC.out).mono ?_; rintro e wD ⟨rfl, bD⟩)
  have BD := Lib.hid (BC.out.trans (bD.mono BC.out.size))
  clear l0 l1 l2 l3 bD
  rcases Int.lt_or_le m 0 with hneg | hpos
  · have t0 : decide (m < 0) = true := decide_eq_true hneg
    have t1 : (m != m) = false := by simp
    have t2 : (m == m) = true := by simp
    clear hneg
    go_wp2_with fail
    go_ret
    exact ⟨rfl, BB.out.trans (BD.out.mono BB.out.size)⟩
  have t0 : decide (m < 0) = false := by simpa using hpos
  have t1 : (m != m) = false := by simp
  have OK := Lib.hid (show sgO s S = true by
    cases hs : sgO s S
    · rw [HM.out, endV_no hs] at hpos; omega
    · rfl)
  rcases Nat.eq_zero_or_pos S.size with h0 | h0
  · have e1 : ((S.size : Int) == 0) = true := by rw [h0]; rfl
    have e2 : (m == 0) = true := by rw [HM.out, endV_nil OK.out h0]; rfl
    clear h0
    go_wp2_with fail
    go_ret
    exact ⟨rfl, BB.out.trans (BD.out.mono BB.out.size)⟩
  have e1 : ((S.size : Int) == 0) = false := beq_eq_false_iff_ne.2 (by omega)
  obtain ⟨n, hn⟩ : ∃ n, S.size = n + 1 := ⟨S.size - 1, by omega⟩
  have EG := end_ge OK.out hn
  rw [← HM.out] at EG
  have LE := longer_end OK.out hn
  rw [← HM.out] at LE
  have oks := Lib.hid (sgO_of OK.out).1
  have L1 := Lib.hid (show n1 = s.A.length from slice_len I1.out)
  have L2 := Lib.hid (show n2 = s.B.length from slice_len I2.out)
  have EG := Lib.hid EG
  have LE := Lib.hid LE
  have l0 := (QB.out.below BD.out).cell0
  clear h0 hn hpos
  go_wp2_with fail
  go_loopw [8] (fun i wr => ∃ k : Nat, k ≤ s.A.length ∧ i = .int .i64 k ∧ Hid (Below wB.heap.size wB wr)) (fun i _ => s.A.length - (intOf i).toNat)
  case atStart => exact ⟨0, Nat.zero_le _, rfl, BD⟩
  case round =>
    obtain ⟨k, hk, rfl, HB⟩ := hrel
    have hLA := oks.out.lenA
    obtain rfl := L1.out
    have c0 := (QB.out.below HB.out).cell0
    have c1' := (QB.out.below HB.out).cell1
    have c2' := (QB.out.below HB.out).cell2
    rcases Nat.lt_or_ge k s.A.length with hlt | hge
    · obtain ⟨b, o, c, e, hb, hc⟩ := ints_at I1.out (by omega)
      simp only [Value.slice.injEq, true_and] at e
      obtain ⟨rfl, rfl⟩ := e
      have cx := (HB.out.cell (p := ⟨b, o + k, none⟩) hb).trans (hc k hlt)
      have hv := EG.out.1 k hlt
      have hr := qB_val oks.out.a hlt
      have hr1 := oks.out.run1
      have hr2 := oks.out.run2
      obtain ⟨x, hx⟩ : ∃ x, x = s.A.getD k 0 := ⟨_, rfl⟩
      rw [← hx] at cx hv hr
      have hw1 : IntKind.i64.wrap (x + s.run) = x + s.run := IntWalk.i64_in _ (by omega)
      have e5 : decide (m < x + s.run) = false := decide_eq_false (by omega)
      have hki : (k : Int) < (s.A.length : Int) := by omega
      have hkm : (k : Int) ≤ 6 := by omega
      have HK := Lib.hid hlt
      have F0 := fun d os => cell_regrown c0 d os
      have F1 := fun d os => cell_regrown c1' d os
      have F2 := fun d os => cell_regrown c2' d os
      have F4 := fun d os => cell_regrown cx d os
      clear cx hv hr hr1 hr2 hx hb hc hlt hk hLA c2'
      go_wp2_with fail
      refine wp_region_quiet_below (by kernel_rfl) (by kernel_rfl) ?_
      repeat (go_big_quiet_step (skip))
      refine wpQuiet_nil ?_
      intro _ hw'
      obtain ⟨⟨dq, osq⟩, hw''⟩ := hw'
      subst hw''
      have BR := below_regrown wr dq osq
      have BN := Lib.hid (HB.out.trans (BR.mono HB.out.size))
      clear hw1 F0 F1 F2 F4 c0 c1' BR
      go_wp2_with fail
      go_roundw
      case rel => exact ⟨k + 1, by have := HK.out; omega, by go_num, BN⟩
      case measure => have := HK.out; simp [intOf]; omega
    · obtain rfl : k = s.A.length := by omega
      have hff : decide ((s.A.length : Int) < (s.A.length : Int)) = false := decide_eq_false (by omega)
      clear hge hk hLA
      clear c1' c2'
      have c1'' := (QB.out.below HB.out).cell1
      go_wp2_with fail
      go_loopw [9] (fun i wr => ∃ k : Nat, k ≤ s.B.length ∧ i = .int .i64 k ∧ Hid (Below wB.heap.size wB wr)) (fun i _ => s.B.length - (intOf i).toNat)
      case atStart => exact ⟨0, Nat.zero_le _, rfl, HB⟩
      case round =>
        obtain ⟨k, hk, rfl, HC⟩ := hrel
        have hLA := oks.out.lenB
        obtain rfl := L2.out
        have c0 := (QB.out.below HC.out).cell0
        have c1' := (QB.out.below HC.out).cell1
        have c2' := (QB.out.below HC.out).cell2
        rcases Nat.lt_or_ge k s.B.length with hlt | hge
        · obtain ⟨b, o, c, e, hb, hc⟩ := ints_at I2.out (by omega)
          simp only [Value.slice.injEq, true_and] at e
          obtain ⟨rfl, rfl⟩ := e
          have cx := (HC.out.cell (p := ⟨b, o + k, none⟩) hb).trans (hc k hlt)
          have hv := EG.out.2 k hlt
          have hr := qB_val oks.out.b hlt
          have hr1 := oks.out.run1
          have hr2 := oks.out.run2
          obtain ⟨x, hx⟩ : ∃ x, x = s.B.getD k 0 := ⟨_, rfl⟩
          rw [← hx] at cx hv hr
          have hw1 : IntKind.i64.wrap (x + s.run) = x + s.run := IntWalk.i64_in _ (by omega)
          have e5 : decide (m < x + s.run) = false := decide_eq_false (by omega)
          have hki : (k : Int) < (s.B.length : Int) := by omega
          have hkm : (k : Int) ≤ 6 := by omega
          have HK := Lib.hid hlt
          have F0 := fun d os => cell_regrown c0 d os
          have F1 := fun d os => cell_regrown c1' d os
          have F2 := fun d os => cell_regrown c2' d os
          have F4 := fun d os => cell_regrown cx d os
          clear cx hv hr hr1 hr2 hx hb hc hlt hk hLA c2'
          go_wp2_with fail
          refine wp_region_quiet_below (by kernel_rfl) (by kernel_rfl) ?_
          repeat (go_big_quiet_step (skip))
          refine wpQuiet_nil ?_
          intro _ hw'
          obtain ⟨⟨dq, osq⟩, hw''⟩ := hw'
          subst hw''
          have BR := below_regrown wr dq osq
          have BN := Lib.hid (HC.out.trans (BR.mono HC.out.size))
          clear hw1 F0 F1 F2 F4 c0 c1' BR
          go_wp2_with fail
          go_roundw
          case rel => exact ⟨k + 1, by have := HK.out; omega, by go_num, BN⟩
          case measure => have := HK.out; simp [intOf]; omega
        · obtain rfl : k = s.B.length := by omega
          have hff : decide ((s.B.length : Int) < (s.B.length : Int)) = false := decide_eq_false (by omega)
          clear hge hk hLA
          have QW := Lib.hid (QB.out.below HC.out)
          have d0 := QW.out.cell0
          have d1 := QW.out.cell1
          have d2 := QW.out.cell2
          have d3 := QW.out.cell3
          have qv := Quad.new wr (.slice a1 s.A.length c1) (.slice a2 s.B.length c2) (.int .i64 s.run) (.int .i64 s.head) 25
          have bv := below_alloc wr (.cells #[.slice a1 s.A.length c1, .slice a2 s.B.length c2, .int .i64 s.run, .int .i64 s.head] 25)
          obtain ⟨V, hV⟩ : ∃ X, X = wr.alloc (.cells #[.slice a1 s.A.length c1, .slice a2 s.B.length c2, .int .i64 s.run, .int .i64 s.head] 25) := ⟨_, rfl⟩
          rw [← hV] at qv bv
          have HV := Lib.hid hV.symm
          have f0 := (QW.out.below bv).cell2
          have f1 := qv.cell2
          have f2 := qv.frozen 2
          have q2 := qv.set2 (.int .i64 (s.run + 1))
          have g0 := q2.cell0
          have g1 := q2.cell1
          have g2 := q2.cell2
          have g3 := q2.cell3
          have bw := HC.out.trans ((bv.setCell (p := ⟨wr.heap.size, 2, none⟩) (Nat.le_refl _) (.int .i64 (s.run + 1))).mono HC.out.size)
          have hlt : wA.heap.size < wr.heap.size := QW.out.lt
          have qo := (QW.out.below bv).other (a := ⟨wr.heap.size, 2, none⟩) (by simp only; omega) (.int .i64 (s.run + 1))
          have h2 := qo.cell2
          have ILV := Lib.hid (IL.out _ bw)
          have BW := Lib.hid bw
          have QO := Lib.hid qo
          have hr1 := oks.out.run1
          have hr2 := oks.out.run2
          have hw2 : IntKind.i64.wrap (s.run + 1) = s.run + 1 := IntWalk.i64_in _ (by omega)
          have hw3 : wrap64 (s.run + 1) = s.run + 1 := IntWalk.wrap64_in _ (by omega)
          have LE := LE.out
          obtain ⟨xe, hxe⟩ : ∃ x, x = endV ⟨s.A, s.B, s.run + 1, s.head⟩ S := ⟨_, rfl⟩
          rw [← hxe] at LE ILV
          have HLE := Lib.hid LE
          clear hV qv bv q2 bw qo hxe LE c0 c1'' hlt
          go_upto_region 22 with fail
          rw [HV.out]
          go_upto_region 24 with (go_at_call 22; refine ILV.out.mono ?_; rintro e wG ⟨rfl, bG⟩)
          have x2 := (QO.out.below bG).cell2
          have BZ := Lib.hid (BB.out.trans ((BW.out.trans (bG.mono BW.out.size)).mono BB.out.size))
          have hm0 : 0 ≤ m := by rw [HM.out]; exact endV_nonneg OK.out
          clear bG hw2 hw3 hr1 hr2 f0 f1 f2 g0 g1 g2 g3 d0 d1 d2 d3 h2
          rcases HLE.out with ⟨hr, hx⟩ | ⟨hr, hx⟩
          · have e6 : (xe == -1) = true := by rw [hx]; rfl
            have e7 : (s.run == 100) = true := by rw [hr]; rfl
            clear hr hx hm0
            go_wp2_with fail
            go_ret
            exact ⟨rfl, BZ.out⟩
          · have e6 : (xe == -1) = false := beq_eq_false_iff_ne.2 (by omega)
            have e7 : decide (m < xe) = true := decide_eq_true hx
            clear hr hm0
            go_wp2_with fail
            go_ret
            exact ⟨rfl, BZ.out⟩

end Go.Proofs.Ytchnaceihmepkaa

namespace Go.Proofs.Ytchnaceihmepkaa.fnSingleEnd
open Go.ChangeShapes Go.WideShapes Go.ChangeAt Go.RowKit
open Go.ChangeMaps (open_string shut_string)
set_option linter.unusedVariables false

theorem own : ownKnob Try.prog.godebug = none := by kernel_rfl
theorem laidOut : laidOutB Try.prog = true := by kernel_rfl

set_option maxRecDepth 100000 in
theorem lifted (os : Os) (started : os.Started) (H : Type) (enc : TypeId × Value → H) :
    ReturnsInHanded {} Try.checked os 5 .any (Rows.fnSingleEndSpec.pre6 enc Try.prog Try.f5 Rows.fnSingleEndRow.domain false) (Rows.fnSingleEndSpec.post enc Try.prog Try.f5 false true false false) := by
  refine returnsInHanded_of_change (C := Try.checked) own started (by kernel_rfl) Try.func5
    (ChangeSpec.witness6 (enc := enc) (C := Try.checked) false ⟨#[], #[.slice none 0 0], []⟩ 8 (by kernel_rfl) (by kernel_rfl) (by kernel_rfl) (by kernel_rfl)) ?_
  intro W base args ds gs before hval0 hW hcnd _
  have hval : ∀ (j : Nat) t v, Try.f5.params[j]? = some t → args[j]? = some v → Value.okWide Try.prog W .any base t v := hval0
  have hW' := hW
  obtain ⟨p, q, hA0, hV, rfl, hfz, hnd⟩ := hW
  have hA : DataW.TrodAll enc Try.prog W 0 (fun _ => true) true Try.f5.params.toList args.toList ds p := hA0
  rw [Try.params5] at hA hval
  obtain ⟨v0, vs0, d0, ds0, p0, q0, hargs, rfl, rfl, h0, r0⟩ := trodAll_cons hA
  obtain ⟨rfl, rfl, rfl⟩ := trodAll_nil r0
  obtain rfl : args = #[v0] := by cases args; simp_all
  obtain ⟨rfl, rfl⟩ := trodVars_none hV
  obtain ⟨a0, len0, cap0, rfl⟩ := okWide_slice Try.underlying22 (hval 0 22 v0 rfl rfl)
  have k0 := h0
  have lt0 : ∀ x ∈ p0, x.block < W.heap.size := by obtain ⟨m, hm⟩ := k0; exact DataW.trod_lt m _ _ _ hm
  obtain ⟨z0, w0⟩ : ∃ zs, IsRowK .u8 W a0 len0 cap0 zs := by
    obtain ⟨fuel, hf⟩ := h0
    rcases open_ints Try.underlying22 Try.underlying5 (by kernel_rfl) hf with ⟨hcs, _⟩ | ⟨x, l, c, zs, hcs, _, hl, hm, hz, _, hcell, hwz⟩
    · simp [Value.cells] at hcs
      obtain ⟨rfl, rfl, rfl⟩ := hcs
      exact ⟨[], .inl ⟨rfl, rfl, rfl, rfl⟩⟩
    · simp [Value.cells] at hcs
      obtain ⟨rfl, rfl, rfl⟩ := hcs
      exact ⟨zs, .inr ⟨_, rfl, hl, hm, by simpa using hz, hcell, hwz⟩⟩
  clear hA0 hval0
  refine (walk_FnSingleEnd a0 len0 cap0 z0 W w0).mono fun e W' ⟨he, bel⟩ => ?_
  subst he
  exact ⟨_, rfl, _, _, _, [], _, [], hW', trodAll_mk1 (shut_bool Try.underlying4 _), (trodAll_cons_mk (Below.trod laidOut (by kernel_rfl) (of_decide_eq_true (by kernel_rfl)) k0 bel lt0) trodAll_mk0), rfl, bel.frame _, fun h => by cases h⟩

theorem closed : joinedFacts Try.checked.prog 5 Try.f5 Rows.fnSingleEndSpec Rows.fnSingleEndRow = true := by
  unfold joinedFacts
  simp only [Bool.and_eq_true]
  repeat' (refine And.intro ?_ ?_)
  all_goals first
    | with_reducible exact may_enter
    | (rw [lifts_final]; kernel_rfl)
    | (rw [make_is]; kernel_rfl)
    | kernel_rfl

theorem over : Rows.fnSingleEndRow.holds Try.pinned (OpenSpec.ofChange Rows.fnSingleEndSpec) :=
  OpenClaim.holds_of_wide 5 Try.f5 rfl rfl rfl rfl rfl rfl rfl ⟨rfl, rfl, rfl, rfl, rfl⟩ rfl rfl rfl rfl rfl (by kernel_rfl) Try.func5 closed
    (of_decide_eq_true (by kernel_rfl)) (by unfold Func.isWrapper; first | (rw [if_pos (by decide +kernel)]; kernel_rfl) | (rw [if_neg (by decide +kernel)]; exact ⟨rfl, rfl⟩))
    (fun os started H enc _ => lifted os started H enc)

theorem proved : Rows.FnSingleEndSaid := over
#print axioms proved
end Go.Proofs.Ytchnaceihmepkaa.fnSingleEnd
