/-
  For every input the law 'FnCountsTrain' returns true, and each of its arguments reads behind the call as it read before. Conditions: none beyond those of the row.
-/
import Derived.Test.YtmdkfhbkdeoahaaRows
import Derived.WalkKit
import Derived.ProofKit
import Derived.OpenShut
import Derived.ShutString
import Derived.ChangeOld
import Derived.Below
import Derived.Deep.Matrix
import Derived.Test.YtmdkfhbkdeoahaaIo
import Derived.Test.YtmdkfhbkdeoahaaCtrT
import Derived.Test.YtmdkfhbkdeoahaaDrwT
import Derived.Test.YtmdkfhbkdeoahaaCtrE
import Derived.Test.YtmdkfhbkdeoahaaSumI
import Derived.Test.YtmdkfhbkdeoahaaSameL
namespace Go.Proofs.Ytmdkfhbkdeoahaa
open Go.RowKit

theorem free_made (w : World) (m : Nat) (hm : m ≤ 8) : OwnI (w.alloc (.cells (madeCells #[.int .i64 0] m) 3)) w.heap.size (.slice (some ⟨w.heap.size, 0, none⟩) m m) (List.replicate m 0) :=
  own_of_rowIs (f := fun _ => 0) (World.rowIs_made w _ m _) (Nat.le_refl _) (by simp only [maxLen]; omega) List.length_replicate (fun i hi => by simp [hi])
theorem made_free (m : Nat) (hm : m ≤ 8) : ∀ w : World, (Instr.makeSlice 23 (.int .i64 (m : Int)) (.int .i64 (m : Int))).run Try.prog w = .ok (.slice (some ⟨w.heap.size, 0, none⟩) m m) (w.alloc (.cells (madeCells #[.int .i64 0] m) 3)) :=
  run_make_row' (P := Try.prog) 23 3 (.int .i64 0) 8 Try.underlying23 info_int rfl .i64 .i64 m (by omega) (by omega)

set_option maxHeartbeats 8000000 in
theorem walk_FnCountsTrain (a0 : Option Addr) (len0 cap0 : Nat) (z0 : List Int) (a1 : Option Addr) (len1 cap1 : Nat) (z1 : List Int) (w : World) (w0 : IsRowK .u8 w a0 len0 cap0 z0) (w1 : IsRowK .u8 w a1 len1 cap1 z1) :
    Calls Try.prog 7 #[.slice a0 len0 cap0, .slice a1 len1 cap1] w fun e w' => e = .returned (.bool true) ∧ Below w.heap.size w w' := by
  have _ := w1
  rcases Nat.lt_or_ge 1048576 len0 with hbig | hsm
  · have hb : (1048576 : Int) < (len0 : Int) := by omega
    go_enter Try.func7, Try.ntmps7
    go_wp2_with fail
    go_ret
    exact ⟨rfl, Below.refl _ _⟩
  have hb : (len0 : Int) ≤ 1048576 := by omega
  rcases Nat.lt_or_ge 1048576 len1 with hbig | hsm1
  · have hb1 : (1048576 : Int) < (len1 : Int) := by omega
    go_enter Try.func7, Try.ntmps7
    go_wp2_with fail
    go_ret
    exact ⟨rfl, Below.refl _ _⟩
  have hb1 : (len1 : Int) ≤ 1048576 := by omega
  have DN := Lib.hid (drawTrain w0 hsm)
  clear w0 w1
  go_enter Try.func7, Try.ntmps7
  go_wp2_with (go_at_call 23; refine DN.out.mono ?_)
  rintro e wA ⟨n, a, rfl, hn0, hn9, ha0, ha51, bA⟩
  have BA := Lib.hid bA
  have IT := Lib.hid (fun (W : World) => implTrain (n := n) (a := a) (by omega) (by omega) W)
  have ST := Lib.hid (fun (W : World) => specTrain (n := n) (a := a) (by omega) (by omega) W)
  have hvl := tnV_length n a
  have TO := Lib.hid (@tnOk_of n a)
  have TY := Lib.hid (@tnV_yes n a)
  obtain ⟨t, ht⟩ : ∃ t, t = tnOk n a := ⟨_, rfl⟩
  obtain ⟨O, hO⟩ : ∃ O, O = tnV n a := ⟨_, rfl⟩
  rw [← ht] at TO TY
  simp only [← ht, ← hO] at IT ST
  rw [← hO] at hvl TY
  clear bA ht hO
  go_wp2_with (go_at_call 24; refine (IT.out _).mono ?_)
  rintro e wB ⟨vB, rfl, oB, bB⟩
  obtain ⟨aB, cB, rfl, iB⟩ := own_list oB (by omega)
  have BB := Lib.hid bB
  have hcB : O.length ≤ cB := by
    obtain ⟨_, _, e, ⟨_, h2⟩, _⟩ := id iB
    simp only [Value.slice.injEq, true_and] at e
    obtain ⟨-, rfl⟩ := e
    exact h2
  clear oB bB
  go_wp2_with (go_at_call 25; refine (ST.out _).mono ?_)
  rintro e wC ⟨vC, rfl, oC, bC⟩
  have SM := sameInts (iB.below bC) (oC.ints (by omega))
  rw [decide_eq_true rfl] at SM
  have SM := Lib.hid SM
  have IB := Lib.hid (iB.below bC)
  have IC := Lib.hid (oC.ints (by omega))
  have BC := Lib.hid (chain BB.out bC)
  clear bC oC iB
  cases t with
  | false =>
    go_wp2_with (first
      | (go_at_call 11; refine SM.out.mono ?_)
      | fail)
    rintro e w4 ⟨rfl, b4⟩
    have SM2 := sameInts (IB.out.below b4) (IC.out.below b4)
    rw [decide_eq_true rfl] at SM2
    have SM2 := Lib.hid SM2
    go_wp2_with (go_at_call 11; refine SM2.out.mono ?_; rintro e w5 ⟨rfl, b5⟩)
    go_ret
    exact ⟨rfl, chain (chain BA.out BC.out) (chain b4 b5)⟩
  | true =>
    obtain ⟨hn, ha⟩ := TO.out rfl
    have hY := TY.out rfl
    obtain ⟨N, rfl⟩ : ∃ N : Nat, n = N := ⟨n.toNat, by omega⟩
    obtain ⟨A, rfl⟩ : ∃ A : Nat, a = A := ⟨a.toNat, by omega⟩
    rw [Int.toNat_natCast, Int.toNat_natCast] at hY
    have hN8 : 1 ≤ N ∧ N ≤ 8 := by omega
    have hA50 : 1 ≤ A ∧ A ≤ 50 := by omega
    obtain ⟨F1, F2, F3, F4, F5⟩ := train_facts hN8 hA50
    have hol : O.length = (N + 1) * A := by rw [hY, tnL_length]
    have hf : Fits O := by
      intro j hj
      rw [hY, tnL_getD (by omega)]
      have h1 : j / A ≤ j := Nat.div_le_self _ _
      obtain ⟨q, hq⟩ : ∃ q, q = j / A := ⟨_, rfl⟩
      rw [← hq] at h1 ⊢
      omega
    rw [← hY] at F1 F2 F3 F4
    simp only [← hY] at F5
    have HOL := Lib.hid hol
    have HF := Lib.hid hf
    have F1 := Lib.hid F1
    have F2 := Lib.hid F2
    have F3 := Lib.hid F3
    have F4 := Lib.hid F4
    have F5 := Lib.hid F5
    have hN := hN8.2
    have hN1 := hN8.1
    have hA := hA50.2
    have hA1 := hA50.1
    clear hol hf hY hn ha hN8 hA50 hn0 hn9 ha0 ha51 TO TY IT ST
    go_wp2_with (go_at_call 11; refine SM.out.mono ?_; rintro e w4 ⟨rfl, b4⟩)
    have B4 := Lib.hid (chain BC.out b4)
    have ofr := free_made w4 N (by omega)
    have bfr := below_alloc w4 (.cells (madeCells #[.int .i64 0] N) 3)
    obtain ⟨W4, hW4⟩ : ∃ X, X = w4.alloc (.cells (madeCells #[.int .i64 0] N) 3) := ⟨_, rfl⟩
    rw [← hW4] at ofr bfr
    have HW4 := Lib.hid hW4
    have ZI := ofr.ints (by rw [List.length_replicate]; omega)
    have OI := (IB.out.below b4).below bfr
    obtain ⟨x0, hx0⟩ : ∃ x, x = List.replicate N (0 : Int) := ⟨_, rfl⟩
    rw [← hx0] at ZI F1 F5
    have HZL := Lib.hid (show x0.length = N by rw [hx0, List.length_replicate])
    have CR := implRunC ZI OI HF.out
    rw [F1.out] at CR
    have CR := Lib.hid CR
    have MF := made_free N (by omega)
    have B5 := Lib.hid (chain B4.out bfr)
    have ZI := Lib.hid ZI
    have OI := Lib.hid OI
    clear b4 ofr bfr hW4 SM IB IC hx0
    go_wp2_with fail
    rw [MF, ← HW4.out]
    clear MF
    go_wp2_with (go_at_call 14; refine CR.out.mono ?_)
    rintro e w5 ⟨v5, rfl, o5, b5⟩
    have X5 := Lib.hid (show Ints w5 v5 x0 from o5.ints (show x0.length ≤ 1048576 by have := HZL.out; omega))
    have Z5 := Lib.hid (ZI.out.below b5)
    have OI5 := Lib.hid (OI.out.below b5)
    have NN := implNet OI5.out HF.out (n := (N : Int)) (by omega)
    rw [F2.out] at NN
    obtain ⟨M, hM⟩ : ∃ M, M = netV N O := ⟨_, rfl⟩
    rw [← hM] at NN F3 F4
    have NN := Lib.hid NN
    have C5 := Lib.hid (chain B5.out b5)
    clear b5 o5 CR hM ZI OI B5
    go_wp2_with (go_at_call 16; refine NN.out.mono ?_)
    rintro e w6 ⟨v6, rfl, o6, b6⟩
    obtain ⟨a6, c6, rfl, i6⟩ := own_list o6 (by have := F3.out; omega)
    obtain ⟨_, _, e6, sp6⟩ := i6.spot
    simp only [Value.slice.injEq] at e6
    obtain ⟨rfl, -, rfl⟩ := e6
    obtain ⟨b6', o6', rfl, hb6, hc6⟩ := sp6 0 (by have := F3.out; omega)
    have CM := Lib.hid (show ∀ i, i < N + 1 → w6.cell? ⟨b6', o6' + i, none⟩ = some (.int .i64 A) from fun i hi => by rw [hc6 i (by rw [F3.out]; exact hi), F4.out i hi])
    rw [F3.out]
    have X6 := Lib.hid (X5.out.below b6)
    have Z6 := Lib.hid (Z5.out.below b6)
    have OI6 := Lib.hid (OI5.out.below b6)
    have C6 := Lib.hid (chain C5.out b6)
    clear b6 o6 i6 sp6 hc6 NN X5 Z5 OI5
    have hNi : (0 : Int) < (N : Int) := by omega
    obtain ⟨k, hk, hkn⟩ : ∃ k : Nat, (len1 : Int) % (N : Int) = (k : Int) ∧ k < N := ⟨len1 % N, by simp, Nat.mod_lt _ (by omega)⟩
    have HK := Lib.hid hk
    obtain ⟨hle, y, hy, hyl, hyk, hys, hyr⟩ := F5.out k hkn
    obtain ⟨m, hm⟩ : ∃ m, m = A * (k + 1) := ⟨_, rfl⟩
    rw [← hm] at hle hy
    have hmO : m ≤ O.length := by rw [HOL.out]; exact hle
    have hw2 : IntKind.i64.wrap ((A : Int) * ((k : Int) + 1)) = (m : Int) := by
      have hle2 : m ≤ 450 := Nat.le_trans hmO hvl
      have : (A : Int) * ((k : Int) + 1) = (m : Int) := by rw [hm]; push_cast; rfl
      rw [this, IntWalk.i64_in _ (by omega)]
    obtain ⟨u1, s1, i1⟩ := part_head (a := aB) (c := cB) (xs := O) hmO hcB
    have C7 := implRunC Z6.out (i1 _ OI6.out) (show Fits (O.take m) from fun j hj => by
      have hj' : j < m ∧ j < O.length := by rw [List.length_take] at hj; omega
      have e : (O.take m).getD j 0 = O.getD j 0 := by simp [List.getD_eq_getElem?_getD, show j < m by omega]
      rw [e]; exact HF.out j hj'.2)
    rw [hy] at C7
    have C7 := Lib.hid C7
    have HYS := Lib.hid hys
    have HYR := Lib.hid hyr
    have HYK := Lib.hid hyk
    have HYL := Lib.hid hyl
    have hki : (k : Int) < (N : Int) := by omega
    clear hle hy hys hyr hyk hyl hm i1 hk hmO
    go_upto_region 12 with fail
    rw [HK.out]
    clear HK
    go_wp2_with (go_at_call 14; refine C7.out.mono ?_)
    rintro e w7 ⟨v7, rfl, o7, b7⟩
    have o7 : OwnI w7 w6.heap.size v7 y := o7
    obtain ⟨a7, c7, rfl, i7⟩ := own_list o7 (by have := HYL.out; omega)
    obtain ⟨_, _, e7, sp7⟩ := i7.spot
    simp only [Value.slice.injEq] at e7
    obtain ⟨rfl, -, rfl⟩ := e7
    obtain ⟨b7', o7', rfl, hb7, hc7⟩ := sp7 k (by rw [HYL.out]; exact hkn)
    have CK := Lib.hid (show w7.cell? ⟨b7', o7' + k, none⟩ = some (.int .i64 A) by rw [hc7 k (by rw [HYL.out]; exact hkn), HYK.out])
    have Y7 := Lib.hid i7
    have X7 := Lib.hid (X6.out.below b7)
    have Z7 := Lib.hid (Z6.out.below b7)
    have CM7 := Lib.hid (fun i (hi : i < N + 1) => (b7.cell (p := ⟨b6', o6' + i, none⟩) hb6).trans (CM.out i hi))
    have hb67 := Nat.lt_of_lt_of_le hb6 b7.size
    have B7 := Lib.hid (chain C6.out b7)
    rw [HYL.out] at Y7 ⊢
    clear b7 o7 i7 sp7 hc7 C7 X6 Z6 CM OI6 s1 hw2
    go_wp2_with fail
    go_loopw [19] (fun i wr => ∃ j : Nat, j ≤ N + 1 ∧ i = .int .i64 j ∧ wr = w7) (fun i _ => N + 1 - (intOf i).toNat)
    case atStart => exact ⟨0, by omega, rfl, rfl⟩
    case round =>
      obtain ⟨j, hj, rfl, rfl⟩ := hrel
      by_cases hlt : j < N + 1
      · have hji : (j : Int) ≤ (N : Int) := by omega
        have hji2 : (j : Int) < (N : Int) + 1 := by omega
        have cj := CM7.out j hlt
        have hne : ((A : Int) != (A : Int)) = false := bne_self_eq_false _
        have hne2 : ((N : Int) + 1 != (N : Int) + 1) = false := bne_self_eq_false _
        go_wp2_with fail
        go_roundw
        case rel => exact ⟨j + 1, by omega, by go_num, by first | rfl | trivial⟩
        case measure => simp [intOf]; omega
      · obtain rfl : j = N + 1 := by omega
        clear hlt
        have SM := sameInts X7.out Z7.out
        rw [decide_eq_true rfl] at SM
        have SM := Lib.hid SM
        have hck := CK.out
        have heq : ((A : Int) == (A : Int)) = true := beq_self_eq_true _
        have HY := Lib.hid (fun (W : World) (b : Below wr.heap.size wr W) => (show Calls Try.prog 12 #[_] W (fun e w' => e = .returned (.int .i64 A) ∧ w' = W) by
          have q := sumOf (Y7.out.below b) (by have := HYL.out; omega) (fun i hi => by have := HYR.out i (by have := HYL.out; omega); omega)
          rw [HYL.out, HYS.out] at q
          exact q))
        have hcs := fun (W : World) (b : Below wr.heap.size wr W) => (b.cell (p := ⟨b7', o7' + k, none⟩) hb7).trans hck
        have HCS := Lib.hid hcs
        clear hck hcs
        go_wp2_with (first
          | (go_at_call 11; refine SM.out.mono ?_; rintro e w8 ⟨rfl, b8⟩; have hc8 := HCS.out w8 b8)
          | (go_at_call 12; refine (HY.out _ b8).mono ?_; rintro e w9 ⟨rfl, rfl⟩))
        go_ret
        exact ⟨rfl, chain (chain BA.out B7.out) b8⟩

end Go.Proofs.Ytmdkfhbkdeoahaa

namespace Go.Proofs.Ytmdkfhbkdeoahaa.fnCountsTrain
open Go.ChangeShapes Go.WideShapes Go.ChangeAt Go.RowKit
open Go.ChangeMaps (open_string shut_string)
set_option linter.unusedVariables false

theorem own : ownKnob Try.prog.godebug = none := by kernel_rfl
theorem laidOut : laidOutB Try.prog = true := by kernel_rfl

set_option maxRecDepth 100000 in
theorem lifted (os : Os) (started : os.Started) (H : Type) (enc : TypeId × Value → H) :
    ReturnsInHanded {} Try.checked os 7 .any (Rows.fnCountsTrainSpec.pre6 enc Try.prog Try.f7 Rows.fnCountsTrainRow.domain false) (Rows.fnCountsTrainSpec.post enc Try.prog Try.f7 false true false false) := by
  refine returnsInHanded_of_change (C := Try.checked) own started (by kernel_rfl) Try.func7
    (ChangeSpec.witness6 (enc := enc) (C := Try.checked) false ⟨#[], #[.slice none 0 0, .slice none 0 0], []⟩ 8 (by kernel_rfl) (by kernel_rfl) (by kernel_rfl) (by kernel_rfl)) ?_
  intro W base args ds gs before hval0 hW hcnd _
  have hval : ∀ (j : Nat) t v, Try.f7.params[j]? = some t → args[j]? = some v → Value.okWide Try.prog W .any base t v := hval0
  have hW' := hW
  obtain ⟨p, q, hA0, hV, rfl, hfz, hnd⟩ := hW
  have hA : DataW.TrodAll enc Try.prog W 0 (fun _ => true) true Try.f7.params.toList args.toList ds p := hA0
  rw [Try.params7] at hA hval
  obtain ⟨v0, vs0, d0, ds0, p0, q0, hargs, rfl, rfl, h0, r0⟩ := trodAll_cons hA
  obtain ⟨v1, vs1, d1, ds1, p1, q1, rfl, rfl, rfl, h1, r1⟩ := trodAll_cons r0
  obtain ⟨rfl, rfl, rfl⟩ := trodAll_nil r1
  obtain rfl : args = #[v0, v1] := by cases args; simp_all
  obtain ⟨rfl, rfl⟩ := trodVars_none hV
  obtain ⟨a0, len0, cap0, rfl⟩ := okWide_slice Try.underlying22 (hval 0 22 v0 rfl rfl)
  have k0 := h0
  have lt0 : ∀ x ∈ p0, x.block < W.heap.size := by obtain ⟨m, hm⟩ := k0; exact DataW.trod_lt m _ _ _ hm
  obtain ⟨z0, w0⟩ : ∃ zs, IsRowK .u8 W a0 len0 cap0 zs := by
    obtain ⟨fuel, hf⟩ := h0
    rcases open_ints Try.underlying22 Try.underlying5 (by kernel_rfl) hf with ⟨hcs, _⟩ | ⟨x, l, c, zs, hcs, _, hl, hm, hz, _, hcell, hwz⟩
    · simp [Value.cells] at hcs
      obtain ⟨rfl, rfl, rfl⟩ := hcs
      exact ⟨[], .inl ⟨rfl, rfl, rfl, rfl⟩⟩
    · simp [Value.cells] at hcs
      obtain ⟨rfl, rfl, rfl⟩ := hcs
      exact ⟨zs, .inr ⟨_, rfl, hl, hm, by simpa using hz, hcell, hwz⟩⟩
  obtain ⟨a1, len1, cap1, rfl⟩ := okWide_slice Try.underlying22 (hval 1 22 v1 rfl rfl)
  have k1 := h1
  have lt1 : ∀ x ∈ p1, x.block < W.heap.size := by obtain ⟨m, hm⟩ := k1; exact DataW.trod_lt m _ _ _ hm
  obtain ⟨z1, w1⟩ : ∃ zs, IsRowK .u8 W a1 len1 cap1 zs := by
    obtain ⟨fuel, hf⟩ := h1
    rcases open_ints Try.underlying22 Try.underlying5 (by kernel_rfl) hf with ⟨hcs, _⟩ | ⟨x, l, c, zs, hcs, _, hl, hm, hz, _, hcell, hwz⟩
    · simp [Value.cells] at hcs
      obtain ⟨rfl, rfl, rfl⟩ := hcs
      exact ⟨[], .inl ⟨rfl, rfl, rfl, rfl⟩⟩
    · simp [Value.cells] at hcs
      obtain ⟨rfl, rfl, rfl⟩ := hcs
      exact ⟨zs, .inr ⟨_, rfl, hl, hm, by simpa using hz, hcell, hwz⟩⟩
  clear hA0 hval0
  refine (walk_FnCountsTrain a0 len0 cap0 z0 a1 len1 cap1 z1 W w0 w1).mono fun e W' ⟨he, bel⟩ => ?_
  subst he
  exact ⟨_, rfl, _, _, _, [], _, [], hW', trodAll_mk1 (shut_bool Try.underlying4 _), (trodAll_cons_mk (Below.trod laidOut (by kernel_rfl) (of_decide_eq_true (by kernel_rfl)) k0 bel lt0) (trodAll_cons_mk (Below.trod laidOut (by kernel_rfl) (of_decide_eq_true (by kernel_rfl)) k1 bel lt1) trodAll_mk0)), rfl, bel.frame _, fun h => by cases h⟩

theorem closed : joinedFacts Try.checked.prog 7 Try.f7 Rows.fnCountsTrainSpec Rows.fnCountsTrainRow = true := by
  unfold joinedFacts
  simp only [Bool.and_eq_true]
  repeat' (refine And.intro ?_ ?_)
  all_goals first
    | with_reducible exact may_enter
    | (rw [lifts_final]; kernel_rfl)
    | (rw [make_is]; kernel_rfl)
    | kernel_rfl

theorem over : Rows.fnCountsTrainRow.holds Try.pinned (OpenSpec.ofChange Rows.fnCountsTrainSpec) :=
  OpenClaim.holds_of_wide 7 Try.f7 rfl rfl rfl rfl rfl rfl rfl ⟨rfl, rfl, rfl, rfl, rfl⟩ rfl rfl rfl rfl rfl (by kernel_rfl) Try.func7 closed
    (of_decide_eq_true (by kernel_rfl)) (by unfold Func.isWrapper; first | (rw [if_pos (by decide +kernel)]; kernel_rfl) | (rw [if_neg (by decide +kernel)]; exact ⟨rfl, rfl⟩))
    (fun os started H enc _ => lifted os started H enc)

theorem proved : Rows.FnCountsTrainSaid := over
#print axioms proved
end Go.Proofs.Ytmdkfhbkdeoahaa.fnCountsTrain
