/-
  For every input the law 'FnCountsNet' returns true, and each of its arguments reads behind the call as it read before. Conditions: none beyond those of the row.
-/
import Derived.Test.YtmdkfhbkdeoahaaRows
import Derived.WalkKit
import Derived.ProofKit
import Derived.OpenShut
import Derived.ShutString
import Derived.ChangeOld
import Derived.Below
import Derived.Deep.Matrix
import Derived.Test.YtmdkfhbkdeoahaaIo
import Derived.Test.YtmdkfhbkdeoahaaSumI
import Derived.Test.YtmdkfhbkdeoahaaDrwD
import Derived.Test.YtmdkfhbkdeoahaaCtrR
import Derived.Test.YtmdkfhbkdeoahaaCtrE
import Derived.Test.YtmdkfhbkdeoahaaSameL
namespace Go.Proofs.Ytmdkfhbkdeoahaa
open Go.RowKit

set_option maxHeartbeats 8000000 in
theorem walk_FnCountsNet (a0 : Option Addr) (len0 cap0 : Nat) (z0 : List Int) (w : World) (w0 : IsRowK .u8 w a0 len0 cap0 z0) :
    Calls Try.prog 6 #[.slice a0 len0 cap0] w fun e w' => e = .returned (.bool true) ∧ Below w.heap.size w w' := by
  rcases Nat.lt_or_ge 1048576 len0 with hbig | hsm
  · have hb : (1048576 : Int) < (len0 : Int) := by omega
    go_enter Try.func6, Try.ntmps6
    go_wp2_with fail
    go_ret
    exact ⟨rfl, Below.refl _ _⟩
  have hb : (len0 : Int) ≤ 1048576 := by omega
  obtain ⟨i0, hi, hz0, hz1, hz2⟩ := info_parts info_int
  have DN := Lib.hid (drawNet w0 hsm)
  clear w0
  go_enter Try.func6, Try.ntmps6
  go_wp2_with (go_at_call 21; refine DN.out.mono ?_)
  rintro e wA ⟨n, v, ps, rfl, hn0, hn4, iA, hl7, hlo, hsm2, bA⟩
  have hli : (ps.length : Int) ≤ 7 := by omega
  have BA := Lib.hid bA
  have hf : Fits ps := fun j hj => by have := hlo j hj; omega
  have hf2 : Fits (ps ++ ps) := by
    intro j hj
    by_cases e : j < ps.length
    · rw [getD_low e]; exact hf j e
    · obtain ⟨i, rfl⟩ : ∃ i, j = ps.length + i := ⟨j - ps.length, by omega⟩
      rw [getD_high]
      exact hf i (by simp at hj; omega)
  have IN := Lib.hid (implNet iA hf (n := n) (by omega))
  have SN := Lib.hid (fun (W : World) (q : Below wA.heap.size wA W) => specNet (iA.below q) hf (n := n) (by omega))
  have I2 := Lib.hid (fun (W : World) (u : Value) (q : Ints W u (ps ++ ps)) => implNet q hf2 (n := n) (by omega))
  have NF := Lib.hid (@net_facts n ps)
  have hvl := netV_length n ps
  have hv2 := netV_length n (ps ++ ps)
  obtain ⟨L, hL⟩ : ∃ L, L = netV n ps := ⟨_, rfl⟩
  obtain ⟨M, hM⟩ : ∃ M, M = netV n (ps ++ ps) := ⟨_, rfl⟩
  obtain ⟨t, ht⟩ : ∃ t, t = netOk n ps := ⟨_, rfl⟩
  rw [← hL, ← ht] at IN
  simp only [← hL, ← ht] at SN
  rw [← hM] at hv2
  rw [← hL] at hvl
  simp only [← hL, ← hM, ← ht] at NF
  have HD := Lib.hid (@netOk_double n ps)
  rw [← ht] at HD
  simp only [← hM] at I2
  obtain ⟨a, c, rfl⟩ := hsm2
  have IA := Lib.hid iA
  clear bA iA hL hM ht hf hf2 hlo
  go_wp2_with (go_at_call 16; refine IN.out.mono ?_)
  rintro e wB ⟨vB, rfl, oB, bB⟩
  obtain ⟨aB, cB, rfl, iB⟩ := own_list oB (by omega)
  have BB := Lib.hid bB
  clear oB bB
  go_wp2_with (go_at_call 22; refine (SN.out _ BB.out).mono ?_)
  rintro e wC ⟨vC, rfl, oC, bC⟩
  have SM := sameInts (iB.below bC) (oC.ints (by omega))
  rw [decide_eq_true rfl] at SM
  have SM := Lib.hid SM
  have IB := Lib.hid (iB.below bC)
  have IC := Lib.hid (oC.ints (by omega))
  have BC := Lib.hid (chain BB.out bC)
  clear bC oC iB
  cases t with
  | false =>
    go_wp2_with (first
      | (go_at_call 11; refine SM.out.mono ?_)
      | fail)
    rintro e w4 ⟨rfl, b4⟩
    have SM2 := sameInts (IB.out.below b4) (IC.out.below b4)
    rw [decide_eq_true rfl] at SM2
    have SM2 := Lib.hid SM2
    go_wp2_with (go_at_call 11; refine SM2.out.mono ?_; rintro e w5 ⟨rfl, b5⟩)
    go_ret
    exact ⟨rfl, chain (chain BA.out BC.out) (chain b4 b5)⟩
  | true =>
    obtain ⟨F1, F2, F3, F4, F5, F6⟩ := NF.out rfl
    have HDt := HD.out rfl
    go_wp2_with (go_at_call 11; refine SM.out.mono ?_; rintro e w4 ⟨rfl, b4⟩)
    have B4 := Lib.hid (chain BC.out b4)
    have I4 := Lib.hid (IB.out.below b4)
    have IA4 := Lib.hid (IA.out.below (chain BC.out b4))
    clear b4 SM IB IC NF IA
    obtain ⟨_, _, eA, hsA⟩ := IA4.out.spot
    simp only [Value.slice.injEq] at eA
    obtain ⟨rfl, -, rfl⟩ := eA
    have SA := Lib.hid hsA
    have F4 := Lib.hid F4
    have F5 := Lib.hid F5
    have F6 := Lib.hid F6
    have F3 := Lib.hid F3
    have HDt := Lib.hid HDt
    clear hsA
    go_loopw [9, 10] (fun s i wr => ∃ k : Nat, k ≤ ps.length ∧ i = .int .i64 k ∧ s = .int .i64 (sgTo ps k) ∧ wr = w4) (fun _ i _ => ps.length - (intOf i).toNat)
    case atStart => exact ⟨0, by omega, rfl, rfl, rfl⟩
    case round =>
      obtain ⟨k, hk, rfl, rfl, rfl⟩ := hrel
      by_cases hlt : k < ps.length
      · have hki : (k : Int) < (ps.length : Int) := by omega
        obtain ⟨b, o, eo, hb, hcell⟩ := SA.out k hlt
        simp only [Option.some.injEq, Addr.mk.injEq, and_true] at eo
        obtain ⟨rfl, rfl⟩ := eo
        obtain ⟨x, hx⟩ : ∃ x, x = ps.getD k 0 := ⟨_, rfl⟩
        have hcx := hcell k hlt
        rw [← hx, Nat.zero_add] at hcx
        obtain ⟨s, hs⟩ : ∃ s, s = sgTo ps k := ⟨_, rfl⟩
        have r1 := sgTo_range ps k
        have NX := Lib.hid (show sgTo ps (k + 1) = s + sg x by rw [hs, hx]; rfl)
        rw [← hs] at r1
        rw [← hs]
        clear hs hx hcell
        by_cases h0 : 0 ≤ x
        · have hw1 : IntKind.i64.wrap (s + 1) = s + 1 := IntWalk.i64_in _ (by omega)
          have hsx := Lib.hid (sg_pos h0)
          go_wp2_with fail
          go_roundw
          case rel => exact ⟨k + 1, by omega, by go_num, by rw [NX.out, hsx.out], by first | rfl | trivial⟩
          case measure => simp [intOf]; omega
        · have hw1 : IntKind.i64.wrap (s - 1) = s - 1 := IntWalk.i64_in _ (by omega)
          have h0' : x < 0 := by omega
          have hsx := Lib.hid (sg_neg h0')
          go_wp2_with fail
          go_roundw
          case rel => exact ⟨k + 1, by omega, by go_num, by rw [NX.out, hsx.out]; rfl, by first | rfl | trivial⟩
          case measure => simp [intOf]; omega
      · obtain rfl : k = ps.length := by omega
        have CELL := Lib.hid (fun (W : World) (b : Below wr.heap.size wr W) (j : Nat) (u : Value) (hu : (ps.map (Value.int .i64))[j]? = some u) => show W.cell? ((⟨a, 0, none⟩ : Addr).add j) = some u by
          obtain ⟨h, rfl⟩ := List.getElem?_eq_some_iff.1 hu
          rw [List.length_map] at h
          obtain ⟨b0, o0, eo, hb0, hc0⟩ := SA.out j h
          simp only [Option.some.injEq, Addr.mk.injEq, and_true] at eo
          obtain ⟨rfl, rfl⟩ := eo
          have e1 := (b.cell (p := ⟨a, 0 + j, none⟩) hb0).trans (hc0 j h)
          rw [addr_at, e1]
          simp [h])
        have oE := own_empty wr
        unfold OwnI at oE
        rw [List.length_nil] at oE
        have ba := below_alloc wr (.cells #[] 3)
        go_wp2_with (at_builtin; refine wpList_append_own _ rfl _ _ 23 rfl wr.heap.size 3 i0 (.int .i64 0) 1 8 Try.underlying23 hi hz0 hz1 hz2 rfl (by decide) _ _ _ rfl oE ⟨a, 0, none⟩ ps.length c (ps.map (.int .i64)) rfl (by simp) ?c1 ?c2 ?c3 ?c4 ?c5 ?_)
        case c1 => exact CELL.out _ ba
        case c2 => intro u hu; simp at hu; obtain ⟨q, _, rfl⟩ := hu; rfl
        case c3 => simp only [maxLen]; omega
        case c4 => omega
        case c5 => simp
        intro v5 w5 hown5 hgrow5 _
        have b5 := ba.grown hgrow5 (by simp) (fun g hg => (World.ownsRow.lt oE g hg).1)
        have CE5 := Lib.hid (CELL.out w5 b5)
        have O5 := Lib.hid hown5
        have hs5 := b5.size
        have B5 := Lib.hid b5
        clear b5 hown5 hgrow5 ba oE
        go_wp2_with (at_builtin; refine wpList_append_own _ rfl _ _ 23 rfl wr.heap.size 3 i0 (.int .i64 0) 1 8 Try.underlying23 hi hz0 hz1 hz2 rfl (by decide) _ _ _ rfl O5.out ⟨a, 0, none⟩ ps.length c (ps.map (.int .i64)) rfl (by simp) ?d1 ?d2 ?d3 ?d4 ?d5 ?_)
        case d1 => exact CE5.out
        case d2 => intro u hu; simp at hu; obtain ⟨q, _, rfl⟩ := hu; rfl
        case d3 => simp only [maxLen]; omega
        case d4 => omega
        case d5 => exact hs5
        intro v6 w6 hown6 hgrow6 _
        have b6 := B5.out.grown hgrow6 B5.out.size (fun g hg => (World.ownsRow.lt O5.out g hg).1)
        have O6 : OwnI w6 wr.heap.size v6 (ps ++ ps) := by
          unfold OwnI
          rw [List.length_append, List.map_append]
          exact hown6
        have I6 := O6.ints (by rw [List.length_append]; omega)
        have N6 := I2.out w6 v6 I6
        rw [HDt.out] at N6
        have N6 := Lib.hid N6
        have C6 := Lib.hid (chain B4.out b6)
        have I46 := Lib.hid (I4.out.below b6)
        clear hown6 hgrow6 b6 O6 I6 CE5 O5 hs5 B5 CELL
        go_wp2_with (go_at_call 16; refine N6.out.mono ?_)
        rintro e w7 ⟨v7, rfl, o7, b7⟩
        obtain ⟨a7, c7, rfl, i7⟩ := own_list o7 (by omega)
        have I47 := I46.out.below b7
        obtain ⟨_, _, e7, hs7⟩ := i7.spot
        simp only [Value.slice.injEq] at e7
        obtain ⟨rfl, -, rfl⟩ := e7
        obtain ⟨_, _, e8, hs8⟩ := I47.spot
        simp only [Value.slice.injEq] at e8
        obtain ⟨rfl, -, rfl⟩ := e8
        have h0 : 0 < L.length := by omega
        obtain ⟨b7', o7', rfl, hb7, hc7⟩ := hs7 0 (by rw [F3.out]; exact h0)
        obtain ⟨b8, o8, rfl, hb8, hc8⟩ := hs8 0 h0
        have C7 := Lib.hid (chain C6.out b7)
        have HC7 := Lib.hid (show ∀ i, i < L.length → w7.cell? ⟨b7', o7' + i, none⟩ = some (.int .i64 (2 * L.getD i 0)) from fun i hi => by rw [hc7 i (by rw [F3.out]; exact hi), F5.out i hi])
        have HC8 := Lib.hid hc8
        have hli5 : (L.length : Int) ≤ 9 := by omega
        rw [F3.out]
        have hSr := sgTo_range ps ps.length
        obtain ⟨S, hS⟩ : ∃ S, S = sgTo ps ps.length := ⟨_, rfl⟩
        rw [← hS]
        have HSS := Lib.hid (hS.trans F4.out.symm)
        have tn : ((L.length : Int) == n + 1) = true := beq_iff_eq.2 F2
        have hw2 : IntKind.i64.wrap (n + 1) = n + 1 := IntWalk.i64_in _ (by omega)
        have IB9 := Lib.hid I47
        clear hs7 hs8 hc7 hc8 b7 o7 i7 I47 N6 hS F2
        go_wp2_with fail
        go_loopw [13] (fun i wr => ∃ k : Nat, k ≤ L.length ∧ i = .int .i64 k ∧ Below w7.heap.size w7 wr) (fun i _ => L.length - (intOf i).toNat)
        case atStart => exact ⟨0, by omega, rfl, Below.refl _ _⟩
        case round =>
          obtain ⟨k, hk, rfl, hbel⟩ := hrel
          have BR := Lib.hid hbel
          clear hbel
          by_cases hlt : k < L.length
          · have hki : (k : Int) < (L.length : Int) := by omega
            obtain ⟨x, hx⟩ : ∃ x, x = L.getD k 0 := ⟨_, rfl⟩
            have rx := F6.out k hlt
            have k7 := HC7.out k hlt
            have k8 := HC8.out k hlt
            rw [← hx] at rx k7 k8
            have k7' := (BR.out.cell (p := ⟨b7', o7' + k, none⟩) hb7).trans k7
            have k8' := (BR.out.cell (p := ⟨b8, o8 + k, none⟩) hb8).trans k8
            have z7 := fun d os => cell_regrown k7' d os
            have z8 := fun d os => cell_regrown k8' d os
            have hw1 : IntKind.i64.wrap (2 * x) = 2 * x := IntWalk.i64_in _ (by omega)
            have hb1 : ((L.length : Int) != (L.length : Int)) = false := bne_self_eq_false _
            have hb2 : (2 * x != 2 * x) = false := bne_self_eq_false _
            clear hx k7 k8 k7' k8' rx
            go_wp2_with fail
            refine wp_region_quiet_below (by kernel_rfl) (by kernel_rfl) ?_
            repeat (go_big_quiet_step (fail))
            refine wpQuiet_nil ?_
            intro _ hw'
            obtain ⟨⟨dq, osq⟩, hw''⟩ := hw'
            subst hw''
            have B6 := Lib.hid (BR.out.trans ((below_regrown _ dq osq).mono BR.out.size))
            clear z7 z8
            go_wp2_with fail
            go_roundw
            case rel => exact ⟨k + 1, by omega, by go_num, B6.out⟩
            case measure => simp [intOf]; omega
          · obtain rfl : k = L.length := by omega
            clear hlt
            have SO9 := sumOf (IB9.out.below BR.out) (by omega) (fun i hi => by have := F6.out i hi; omega)
            rw [← HSS.out] at SO9
            have SO9 := Lib.hid SO9
            go_wp2_with (go_at_call 12; refine SO9.out.mono ?_; rintro e w8 ⟨rfl, rfl⟩)
            go_ret
            exact ⟨rfl, chain (chain BA.out C7.out) BR.out⟩

end Go.Proofs.Ytmdkfhbkdeoahaa

namespace Go.Proofs.Ytmdkfhbkdeoahaa.fnCountsNet
open Go.ChangeShapes Go.WideShapes Go.ChangeAt Go.RowKit
open Go.ChangeMaps (open_string shut_string)
set_option linter.unusedVariables false

theorem own : ownKnob Try.prog.godebug = none := by kernel_rfl
theorem laidOut : laidOutB Try.prog = true := by kernel_rfl

set_option maxRecDepth 100000 in
theorem lifted (os : Os) (started : os.Started) (H : Type) (enc : TypeId × Value → H) :
    ReturnsInHanded {} Try.checked os 6 .any (Rows.fnCountsNetSpec.pre6 enc Try.prog Try.f6 Rows.fnCountsNetRow.domain false) (Rows.fnCountsNetSpec.post enc Try.prog Try.f6 false true false false) := by
  refine returnsInHanded_of_change (C := Try.checked) own started (by kernel_rfl) Try.func6
    (ChangeSpec.witness6 (enc := enc) (C := Try.checked) false ⟨#[], #[.slice none 0 0], []⟩ 8 (by kernel_rfl) (by kernel_rfl) (by kernel_rfl) (by kernel_rfl)) ?_
  intro W base args ds gs before hval0 hW hcnd _
  have hval : ∀ (j : Nat) t v, Try.f6.params[j]? = some t → args[j]? = some v → Value.okWide Try.prog W .any base t v := hval0
  have hW' := hW
  obtain ⟨p, q, hA0, hV, rfl, hfz, hnd⟩ := hW
  have hA : DataW.TrodAll enc Try.prog W 0 (fun _ => true) true Try.f6.params.toList args.toList ds p := hA0
  rw [Try.params6] at hA hval
  obtain ⟨v0, vs0, d0, ds0, p0, q0, hargs, rfl, rfl, h0, r0⟩ := trodAll_cons hA
  obtain ⟨rfl, rfl, rfl⟩ := trodAll_nil r0
  obtain rfl : args = #[v0] := by cases args; simp_all
  obtain ⟨rfl, rfl⟩ := trodVars_none hV
  obtain ⟨a0, len0, cap0, rfl⟩ := okWide_slice Try.underlying22 (hval 0 22 v0 rfl rfl)
  have k0 := h0
  have lt0 : ∀ x ∈ p0, x.block < W.heap.size := by obtain ⟨m, hm⟩ := k0; exact DataW.trod_lt m _ _ _ hm
  obtain ⟨z0, w0⟩ : ∃ zs, IsRowK .u8 W a0 len0 cap0 zs := by
    obtain ⟨fuel, hf⟩ := h0
    rcases open_ints Try.underlying22 Try.underlying5 (by kernel_rfl) hf with ⟨hcs, _⟩ | ⟨x, l, c, zs, hcs, _, hl, hm, hz, _, hcell, hwz⟩
    · simp [Value.cells] at hcs
      obtain ⟨rfl, rfl, rfl⟩ := hcs
      exact ⟨[], .inl ⟨rfl, rfl, rfl, rfl⟩⟩
    · simp [Value.cells] at hcs
      obtain ⟨rfl, rfl, rfl⟩ := hcs
      exact ⟨zs, .inr ⟨_, rfl, hl, hm, by simpa using hz, hcell, hwz⟩⟩
  clear hA0 hval0
  refine (walk_FnCountsNet a0 len0 cap0 z0 W w0).mono fun e W' ⟨he, bel⟩ => ?_
  subst he
  exact ⟨_, rfl, _, _, _, [], _, [], hW', trodAll_mk1 (shut_bool Try.underlying4 _), (trodAll_cons_mk (Below.trod laidOut (by kernel_rfl) (of_decide_eq_true (by kernel_rfl)) k0 bel lt0) trodAll_mk0), rfl, bel.frame _, fun h => by cases h⟩

theorem closed : joinedFacts Try.checked.prog 6 Try.f6 Rows.fnCountsNetSpec Rows.fnCountsNetRow = true := by
  unfold joinedFacts
  simp only [Bool.and_eq_true]
  repeat' (refine And.intro ?_ ?_)
  all_goals first
    | with_reducible exact may_enter
    | (rw [lifts_final]; kernel_rfl)
    | (rw [make_is]; kernel_rfl)
    | kernel_rfl

theorem over : Rows.fnCountsNetRow.holds Try.pinned (OpenSpec.ofChange Rows.fnCountsNetSpec) :=
  OpenClaim.holds_of_wide 6 Try.f6 rfl rfl rfl rfl rfl rfl rfl ⟨rfl, rfl, rfl, rfl, rfl⟩ rfl rfl rfl rfl rfl (by kernel_rfl) Try.func6 closed
    (of_decide_eq_true (by kernel_rfl)) (by unfold Func.isWrapper; first | (rw [if_pos (by decide +kernel)]; kernel_rfl) | (rw [if_neg (by decide +kernel)]; exact ⟨rfl, rfl⟩))
    (fun os started H enc _ => lifted os started H enc)

theorem proved : Rows.FnCountsNetSaid := over
#print axioms proved
end Go.Proofs.Ytmdkfhbkdeoahaa.fnCountsNet
