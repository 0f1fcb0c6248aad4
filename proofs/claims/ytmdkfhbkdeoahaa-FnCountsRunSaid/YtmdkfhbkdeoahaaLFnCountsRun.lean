/-
  For every input the law 'FnCountsRun' returns true, and each of its arguments reads behind the call as it read before. Conditions: none beyond those of the row.
-/
import Derived.Test.YtmdkfhbkdeoahaaRows
import Derived.WalkKit
import Derived.ProofKit
import Derived.OpenShut
import Derived.ShutString
import Derived.ChangeOld
import Derived.Below
import Derived.Deep.Matrix
import Derived.Test.YtmdkfhbkdeoahaaIo
import Derived.Test.YtmdkfhbkdeoahaaCtrS
import Derived.Test.YtmdkfhbkdeoahaaDrwE
import Derived.Test.YtmdkfhbkdeoahaaCtrE
import Derived.Test.YtmdkfhbkdeoahaaSameL
namespace Go.Proofs.Ytmdkfhbkdeoahaa
open Go.RowKit

set_option maxHeartbeats 8000000 in
theorem walk_FnCountsRun (a0 : Option Addr) (len0 cap0 : Nat) (z0 : List Int) (a1 : Option Addr) (len1 cap1 : Nat) (z1 : List Int) (w : World) (w0 : IsRowK .u8 w a0 len0 cap0 z0) (w1 : IsRowK .u8 w a1 len1 cap1 z1) :
    Calls Try.prog 4 #[.slice a0 len0 cap0, .slice a1 len1 cap1] w fun e w' => e = .returned (.bool true) ∧ Below w.heap.size w w' := by
  have _ := w1
  rcases Nat.lt_or_ge 1048576 len0 with hbig | hsm
  · have hb : (1048576 : Int) < (len0 : Int) := by omega
    go_enter Try.func4, Try.ntmps4
    go_wp2_with fail
    go_ret
    exact ⟨rfl, Below.refl _ _⟩
  have hb : (len0 : Int) ≤ 1048576 := by omega
  rcases Nat.lt_or_ge 1048576 len1 with hbig | hsm1
  · have hb1 : (1048576 : Int) < (len1 : Int) := by omega
    go_enter Try.func4, Try.ntmps4
    go_wp2_with fail
    go_ret
    exact ⟨rfl, Below.refl _ _⟩
  have hb1 : (len1 : Int) ≤ 1048576 := by omega
  have DN := Lib.hid (drawCountsRun w0 hsm)
  clear w0 w1
  go_enter Try.func4, Try.ntmps4
  go_wp2_with (go_at_call 13; refine DN.out.mono ?_)
  rintro e wA ⟨u, v, cs, ps, rfl, iA, hl4, hlo, iP, hp9, hpl, hps, bA⟩
  have h4i : (cs.length : Int) ≤ 4 := by omega
  have h9i : (ps.length : Int) ≤ 9 := by omega
  have BA := Lib.hid bA
  have hf : Fits ps := fun j hj => by have := hpl j hj; omega
  have IR := Lib.hid (implRunC iA iP hf)
  have SR := Lib.hid (fun (W : World) (q : Below wA.heap.size wA W) => specRunC (iA.below q) (iP.below q) hf)
  have RF := Lib.hid (fun (ds : List Int) (q : runC cs ps = some ds) => run_facts q)
  have hol := runC_len (cs := cs) (ps := ps)
  have FT := Lib.hid (fun (m : Nat) => (show Fits (ps.take m) from fun j hj => by
    have hj' : j < m ∧ j < ps.length := by rw [List.length_take] at hj; omega
    have e : (ps.take m).getD j 0 = ps.getD j 0 := by simp [List.getD_eq_getElem?_getD, show j < m by omega]
    rw [e]; exact hf j hj'.2))
  have FD := Lib.hid (fun (m : Nat) => (show Fits (ps.drop m) from fun j hj => by
    have hj' : m + j < ps.length := by rw [List.length_drop] at hj; omega
    have e : (ps.drop m).getD j 0 = ps.getD (m + j) 0 := by simp [List.getD_eq_getElem?_getD, List.getElem?_drop]
    rw [e]; exact hf (m + j) hj'))
  have HF := Lib.hid hf
  obtain ⟨o, ho⟩ : ∃ o, o = runC cs ps := ⟨_, rfl⟩
  rw [← ho] at IR RF hol
  simp only [← ho] at SR
  obtain ⟨a, c, rfl, -⟩ := iA.spot
  obtain ⟨ga, ca, rfl⟩ := hps
  have IA := Lib.hid iA
  have IPs := Lib.hid iP
  clear ho bA iA iP hf hlo hpl
  go_wp2_with (go_at_call 14; refine IR.out.mono ?_)
  rintro e wB ⟨vB, rfl, oB, bB⟩
  have iB := oB.ints (by omega)
  have BB := Lib.hid bB
  clear oB bB
  go_wp2_with (go_at_call 15; refine (SR.out _ BB.out).mono ?_)
  rintro e wC ⟨vC, rfl, oC, bC⟩
  have SM := sameInts (iB.below bC) (oC.ints (by omega))
  rw [decide_eq_true rfl] at SM
  have SM := Lib.hid SM
  have IB := Lib.hid (iB.below bC)
  have IC := Lib.hid (oC.ints (by omega))
  have BC := Lib.hid (chain BB.out bC)
  clear bC oC iB
  cases o with
  | none =>
    go_wp2_with (first
      | (go_at_call 11; refine SM.out.mono ?_)
      | fail)
    rintro e w4 ⟨rfl, b4⟩
    have SM2 := sameInts (IB.out.below b4) (IC.out.below b4)
    rw [decide_eq_true rfl] at SM2
    have SM2 := Lib.hid SM2
    go_wp2_with (go_at_call 11; refine SM2.out.mono ?_; rintro e w5 ⟨rfl, b5⟩)
    go_ret
    exact ⟨rfl, chain (chain BA.out BC.out) (chain b4 b5)⟩
  | some ds =>
    obtain ⟨F1, F2, F3, F4, F5, F6, F7⟩ := RF.out ds rfl
    have hl := (cntB_of F1).1
    have vd := Lib.hid (cntB_of F2).2
    have vc := Lib.hid (cntB_of F1).2
    go_wp2_with (go_at_call 11; refine SM.out.mono ?_; rintro e w4 ⟨rfl, b4⟩)
    have B4 := Lib.hid (chain BC.out b4)
    have NN := implNet (IPs.out.below B4.out) HF.out (n := (cs.length : Int)) (by omega)
    rw [F4] at NN
    have nb := fun c => netF_range ps c ps.length
    have NB := Lib.hid (show ∀ i, i < cs.length + 1 → -(9 : Int) ≤ (netV cs.length ps).getD i 0 ∧ (netV cs.length ps).getD i 0 ≤ 9 from fun i hi => by
      rw [netV_yes F4, Int.toNat_natCast, netL_getD (by omega)]
      have := nb i
      omega)
    have hvl := netV_length cs.length ps
    obtain ⟨N, hN⟩ : ∃ N, N = netV cs.length ps := ⟨_, rfl⟩
    rw [← hN] at NN F5 hvl NB
    simp only [← hN] at F6
    have NN := Lib.hid NN
    have I4 := Lib.hid (IB.out.below b4)
    have F6 := Lib.hid F6
    have F7 := Lib.hid F7
    have F3h := Lib.hid F3
    clear b4 SM IB IC RF hN F4 F1 F2
    go_wp2_with (go_at_call 16; refine NN.out.mono ?_)
    rintro e w5 ⟨v5, rfl, o5, b5⟩
    obtain ⟨a5, c5, rfl, i5⟩ := own_list o5 (by omega)
    have B5 := Lib.hid (chain B4.out b5)
    have I45 : Ints w5 vB ds := I4.out.below b5
    obtain ⟨aB, cB, rfl, spB⟩ := I45.spot
    obtain ⟨_, _, e6, spA⟩ := (IA.out.below B5.out).spot
    simp only [Value.slice.injEq] at e6
    obtain ⟨rfl, -, rfl⟩ := e6
    obtain ⟨_, _, e7, spN⟩ := i5.spot
    simp only [Value.slice.injEq] at e7
    obtain ⟨rfl, -, rfl⟩ := e7
    obtain ⟨bD, oD, rfl, hbD, cD⟩ := spB 0 (by omega)
    obtain ⟨bC', oC', rfl, hbC, cC⟩ := spA 0 (by omega)
    obtain ⟨bN, oN, rfl, hbN, cN⟩ := spN 0 (by omega)
    rw [F5, F3]
    rw [F3] at I45
    have IBB := Lib.hid I45
    have CD := Lib.hid cD
    have CC := Lib.hid cC
    have CN := Lib.hid (show ∀ i, i < cs.length + 1 → w5.cell? ⟨bN, oN + i, none⟩ = some (.int .i64 (N.getD i 0)) from fun i hi => cN i (by omega))
    clear b5 o5 i5 spB spA spN cD cC cN I45 NN F5 F3 hvl
    go_wp2_with fail
    go_loopw [14] (fun i wr => ∃ k : Nat, k ≤ cs.length ∧ i = .int .i64 k ∧ Below w5.heap.size w5 wr) (fun i _ => cs.length - (intOf i).toNat)
    case atStart => exact ⟨0, by omega, rfl, Below.refl _ _⟩
    case round =>
      obtain ⟨k, hk, rfl, hbel⟩ := hrel
      have BR := Lib.hid hbel
      clear hbel
      by_cases hlt : k < cs.length
      · have hki : (k : Int) < (cs.length : Int) := by omega
        have kD := (BR.out.cell (p := ⟨bD, oD + k, none⟩) hbD).trans (CD.out k (by rw [F3h.out]; exact hlt))
        have kC := (BR.out.cell (p := ⟨bC', oC' + k, none⟩) hbC).trans (CC.out k hlt)
        have kN := (BR.out.cell (p := ⟨bN, oN + k, none⟩) hbN).trans (CN.out k (by omega))
        have kM := (BR.out.cell (p := ⟨bN, oN + (k + 1), none⟩) hbN).trans (CN.out (k + 1) (by omega))
        have f := F6.out k hlt
        have r1 := vd.out k (by rw [F3h.out]; exact hlt)
        have r2 := vc.out k hlt
        have r3 := NB.out k (by omega)
        have r4 := NB.out (k + 1) (by omega)
        obtain ⟨y, hy⟩ : ∃ y, y = ds.getD k 0 := ⟨_, rfl⟩
        obtain ⟨x, hx⟩ : ∃ y, y = cs.getD k 0 := ⟨_, rfl⟩
        obtain ⟨A, hA⟩ : ∃ y, y = N.getD k 0 := ⟨_, rfl⟩
        obtain ⟨B, hB⟩ : ∃ y, y = N.getD (k + 1) 0 := ⟨_, rfl⟩
        rw [← hy] at kD f r1
        rw [← hx] at kC f r2
        rw [← hA] at kN f r3
        rw [← hB] at kM f r4
        have zD := fun d os => cell_regrown kD d os
        have zC := fun d os => cell_regrown kC d os
        have zN := fun d os => cell_regrown kN d os
        have zM := fun d os => cell_regrown kM d os
        have hw1 : IntKind.i64.wrap (y - x) = y - x := IntWalk.i64_in _ (by omega)
        have hw2 : IntKind.i64.wrap (A - B) = A - B := IntWalk.i64_in _ (by omega)
        have hw3 : IntKind.i64.wrap ((k : Int) + 1) = (k : Int) + 1 := IntWalk.i64_in _ (by omega)
        have hw4 : IntKind.i64.wrap ((cs.length : Int) + 1) = (cs.length : Int) + 1 := IntWalk.i64_in _ (by omega)
        have hne : (y - x != A - B) = false := by rw [f]; exact bne_self_eq_false _
        have hne2 : ((cs.length : Int) + 1 != (cs.length : Int) + 1) = false := bne_self_eq_false _
        have hk1 : (k : Int) + 1 < (cs.length : Int) + 1 := by omega
        clear hy hx hA hB kD kC kN kM f r1 r2 r3 r4
        go_wp2_with fail
        refine wp_region_quiet_below (by kernel_rfl) (by kernel_rfl) ?_
        repeat (go_big_quiet_step (fail))
        refine wpQuiet_nil ?_
        intro _ hw'
        obtain ⟨⟨dq, osq⟩, hw''⟩ := hw'
        subst hw''
        have B6 := Lib.hid (BR.out.trans ((below_regrown _ dq osq).mono BR.out.size))
        clear zD zC zN zM
        go_wp2_with fail
        go_roundw
        case rel => exact ⟨k + 1, by omega, by go_num, B6.out⟩
        case measure => simp [intOf]; omega
      · obtain rfl : k = cs.length := by omega
        clear hlt
        obtain ⟨m, hm, hmp⟩ : ∃ m : Nat, (len1 : Int) % ((ps.length : Int) + 1) = (m : Int) ∧ m ≤ ps.length :=
          ⟨len1 % (ps.length + 1), by simp, by have := Nat.mod_lt len1 (show 0 < ps.length + 1 by omega); omega⟩
        have hca : ps.length ≤ ca := by
          obtain ⟨_, _, e, ⟨_, h2⟩, _⟩ := IPs.out
          simp only [Value.slice.injEq, true_and] at e
          obtain ⟨-, rfl⟩ := e
          exact h2
        obtain ⟨u1, s1, i1⟩ := part_head (a := some ⟨ga, 0, none⟩) (c := ca) (xs := ps) hmp hca
        obtain ⟨u2, s2, i2⟩ := part_tail (a := some ⟨ga, 0, none⟩) (c := ca) (xs := ps) hmp hca
        obtain ⟨x, q1, q2⟩ := F7.out m hmp
        have hx8 : x.length ≤ 8 := by have := runC_len (cs := cs) (ps := ps.take m); rw [q1] at this; exact this
        have BW := Lib.hid (B5.out.trans (BR.out.mono B5.out.size))
        have C1 := implRunC (IA.out.below BW.out) (i1 _ (IPs.out.below BW.out)) (FT.out m)
        rw [q1] at C1
        have C1 := Lib.hid C1
        have I2 := Lib.hid (fun (W : World) (b : Below wA.heap.size wA W) => i2 W (IPs.out.below b))
        have Q2 := Lib.hid q2
        have HM := Lib.hid hm
        have IB5 := Lib.hid (IBB.out.below BR.out)
        have hl1 : (0 : Int) < (ps.length : Int) + 1 := by omega
        clear q1 q2 i1 i2 hm hmp hca
        go_upto_region 16 with fail
        rw [HM.out]
        clear HM
        go_wp2_with (go_at_call 14; refine C1.out.mono ?_)
        rintro e w8 ⟨v8, rfl, o8, b8⟩
        have i8 : Ints w8 v8 x := o8.ints (show x.length ≤ 1048576 by omega)
        have B8 := Lib.hid (chain BW.out b8)
        have C2 := implRunC i8 (I2.out w8 (chain BW.out b8)) (FD.out m)
        rw [Q2.out] at C2
        have C2 := Lib.hid C2
        have IB8 := Lib.hid (IB5.out.below b8)
        clear b8 o8 i8 C1 s1
        go_wp2_with (go_at_call 14; refine C2.out.mono ?_)
        rintro e w9 ⟨v9, rfl, o9, b9⟩
        have i9 : Ints w9 v9 ds := o9.ints (by have := F3h.out; show ds.length ≤ 1048576; omega)
        have SM := sameInts i9 (IB8.out.below b9)
        rw [decide_eq_true rfl] at SM
        have SM := Lib.hid SM
        have B9 := Lib.hid (chain BA.out (chain B8.out b9))
        clear b9 o9 i9 C2 s2
        go_wp2_with (go_at_call 11; refine SM.out.mono ?_; rintro e w10 ⟨rfl, b10⟩)
        go_ret
        exact ⟨rfl, chain B9.out b10⟩

end Go.Proofs.Ytmdkfhbkdeoahaa

namespace Go.Proofs.Ytmdkfhbkdeoahaa.fnCountsRun
open Go.ChangeShapes Go.WideShapes Go.ChangeAt Go.RowKit
open Go.ChangeMaps (open_string shut_string)
set_option linter.unusedVariables false

theorem own : ownKnob Try.prog.godebug = none := by kernel_rfl
theorem laidOut : laidOutB Try.prog = true := by kernel_rfl

set_option maxRecDepth 100000 in
theorem lifted (os : Os) (started : os.Started) (H : Type) (enc : TypeId × Value → H) :
    ReturnsInHanded {} Try.checked os 4 .any (Rows.fnCountsRunSpec.pre6 enc Try.prog Try.f4 Rows.fnCountsRunRow.domain false) (Rows.fnCountsRunSpec.post enc Try.prog Try.f4 false true false false) := by
  refine returnsInHanded_of_change (C := Try.checked) own started (by kernel_rfl) Try.func4
    (ChangeSpec.witness6 (enc := enc) (C := Try.checked) false ⟨#[], #[.slice none 0 0, .slice none 0 0], []⟩ 8 (by kernel_rfl) (by kernel_rfl) (by kernel_rfl) (by kernel_rfl)) ?_
  intro W base args ds gs before hval0 hW hcnd _
  have hval : ∀ (j : Nat) t v, Try.f4.params[j]? = some t → args[j]? = some v → Value.okWide Try.prog W .any base t v := hval0
  have hW' := hW
  obtain ⟨p, q, hA0, hV, rfl, hfz, hnd⟩ := hW
  have hA : DataW.TrodAll enc Try.prog W 0 (fun _ => true) true Try.f4.params.toList args.toList ds p := hA0
  rw [Try.params4] at hA hval
  obtain ⟨v0, vs0, d0, ds0, p0, q0, hargs, rfl, rfl, h0, r0⟩ := trodAll_cons hA
  obtain ⟨v1, vs1, d1, ds1, p1, q1, rfl, rfl, rfl, h1, r1⟩ := trodAll_cons r0
  obtain ⟨rfl, rfl, rfl⟩ := trodAll_nil r1
  obtain rfl : args = #[v0, v1] := by cases args; simp_all
  obtain ⟨rfl, rfl⟩ := trodVars_none hV
  obtain ⟨a0, len0, cap0, rfl⟩ := okWide_slice Try.underlying22 (hval 0 22 v0 rfl rfl)
  have k0 := h0
  have lt0 : ∀ x ∈ p0, x.block < W.heap.size := by obtain ⟨m, hm⟩ := k0; exact DataW.trod_lt m _ _ _ hm
  obtain ⟨z0, w0⟩ : ∃ zs, IsRowK .u8 W a0 len0 cap0 zs := by
    obtain ⟨fuel, hf⟩ := h0
    rcases open_ints Try.underlying22 Try.underlying5 (by kernel_rfl) hf with ⟨hcs, _⟩ | ⟨x, l, c, zs, hcs, _, hl, hm, hz, _, hcell, hwz⟩
    · simp [Value.cells] at hcs
      obtain ⟨rfl, rfl, rfl⟩ := hcs
      exact ⟨[], .inl ⟨rfl, rfl, rfl, rfl⟩⟩
    · simp [Value.cells] at hcs
      obtain ⟨rfl, rfl, rfl⟩ := hcs
      exact ⟨zs, .inr ⟨_, rfl, hl, hm, by simpa using hz, hcell, hwz⟩⟩
  obtain ⟨a1, len1, cap1, rfl⟩ := okWide_slice Try.underlying22 (hval 1 22 v1 rfl rfl)
  have k1 := h1
  have lt1 : ∀ x ∈ p1, x.block < W.heap.size := by obtain ⟨m, hm⟩ := k1; exact DataW.trod_lt m _ _ _ hm
  obtain ⟨z1, w1⟩ : ∃ zs, IsRowK .u8 W a1 len1 cap1 zs := by
    obtain ⟨fuel, hf⟩ := h1
    rcases open_ints Try.underlying22 Try.underlying5 (by kernel_rfl) hf with ⟨hcs, _⟩ | ⟨x, l, c, zs, hcs, _, hl, hm, hz, _, hcell, hwz⟩
    · simp [Value.cells] at hcs
      obtain ⟨rfl, rfl, rfl⟩ := hcs
      exact ⟨[], .inl ⟨rfl, rfl, rfl, rfl⟩⟩
    · simp [Value.cells] at hcs
      obtain ⟨rfl, rfl, rfl⟩ := hcs
      exact ⟨zs, .inr ⟨_, rfl, hl, hm, by simpa using hz, hcell, hwz⟩⟩
  clear hA0 hval0
  refine (walk_FnCountsRun a0 len0 cap0 z0 a1 len1 cap1 z1 W w0 w1).mono fun e W' ⟨he, bel⟩ => ?_
  subst he
  exact ⟨_, rfl, _, _, _, [], _, [], hW', trodAll_mk1 (shut_bool Try.underlying4 _), (trodAll_cons_mk (Below.trod laidOut (by kernel_rfl) (of_decide_eq_true (by kernel_rfl)) k0 bel lt0) (trodAll_cons_mk (Below.trod laidOut (by kernel_rfl) (of_decide_eq_true (by kernel_rfl)) k1 bel lt1) trodAll_mk0)), rfl, bel.frame _, fun h => by cases h⟩

theorem closed : joinedFacts Try.checked.prog 4 Try.f4 Rows.fnCountsRunSpec Rows.fnCountsRunRow = true := by
  unfold joinedFacts
  simp only [Bool.and_eq_true]
  repeat' (refine And.intro ?_ ?_)
  all_goals first
    | with_reducible exact may_enter
    | (rw [lifts_final]; kernel_rfl)
    | (rw [make_is]; kernel_rfl)
    | kernel_rfl

theorem over : Rows.fnCountsRunRow.holds Try.pinned (OpenSpec.ofChange Rows.fnCountsRunSpec) :=
  OpenClaim.holds_of_wide 4 Try.f4 rfl rfl rfl rfl rfl rfl rfl ⟨rfl, rfl, rfl, rfl, rfl⟩ rfl rfl rfl rfl rfl (by kernel_rfl) Try.func4 closed
    (of_decide_eq_true (by kernel_rfl)) (by unfold Func.isWrapper; first | (rw [if_pos (by decide +kernel)]; kernel_rfl) | (rw [if_neg (by decide +kernel)]; exact ⟨rfl, rfl⟩))
    (fun os started H enc _ => lifted os started H enc)

theorem proved : Rows.FnCountsRunSaid := over
#print axioms proved
end Go.Proofs.Ytmdkfhbkdeoahaa.fnCountsRun
