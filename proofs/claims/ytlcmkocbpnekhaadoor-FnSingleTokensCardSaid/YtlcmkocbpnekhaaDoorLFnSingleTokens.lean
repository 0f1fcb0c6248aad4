/-
  For every input the law 'FnSingleTokens' returns true, and each of its arguments reads behind the call as it read before. Conditions: none beyond those of the row.
-/
import Derived.Test.YtlcmkocbpnekhaaDoorRows
import Derived.WalkKit
import Derived.ProofKit
import Derived.OpenShut
import Derived.ShutString
import Derived.ChangeOld
import Derived.Below
import Derived.Deep.Matrix
import Derived.Test.YtlcmkocbpnekhaaDoorIo
import Derived.LaidMore
import Derived.Lay
import Derived.SevenTiedAt
import Derived.Stop.Joined
import Derived.Test.YtlcmkocbpnekhaaDoorCards
import Derived.Test.YtlcmkocbpnekhaaDoorTie
import Derived.Test.YtlcmkocbpnekhaaDoorShp
import Derived.Test.YtlcmkocbpnekhaaDoorDrOs
import Derived.Test.YtlcmkocbpnekhaaDoorSgF
import Derived.Test.YtlcmkocbpnekhaaDoorSameL
import Derived.Test.YtlcmkocbpnekhaaDoorDirB
import Derived.Test.YtlcmkocbpnekhaaDoorDirD
import Derived.Test.YtlcmkocbpnekhaaDoorDirK
import Derived.Deep.RegionHeld3
namespace Go.Proofs.YtlcmkocbpnekhaaDoor
open Go.RowKit

theorem maxlen_below {w w1 : World} (hm : ∃ m : Int, w.cell? ⟨maxLenG, 0, none⟩ = some (.int .i64 m)) (b : Below w.heap.size w w1) : ∃ m : Int, w1.cell? ⟨maxLenG, 0, none⟩ = some (.int .i64 m) := by
  obtain ⟨m, h⟩ := hm
  exact ⟨m, (b.cell (p := ⟨maxLenG, 0, none⟩) (World.block_lt_of_cell? w _ h)).trans h⟩
theorem bal_is {S : ByteArray} : ∀ k, bal S k = 2 * (upTo S k : Int) - (k : Int)
  | 0 => rfl
  | k + 1 => by
    simp only [bal, upTo]
    rw [bal_is k]
    split <;> omega
theorem need_le (S : ByteArray) : ∀ k, needA S k ≤ (upTo S k : Int) ∧ needB S k ≤ ((k - upTo S k : Nat) : Int) ∧ 0 ≤ needA S k ∧ 0 ≤ needB S k
  | 0 => ⟨Int.le_refl _, Int.le_refl _, Int.le_refl _, Int.le_refl _⟩
  | k + 1 => by
    obtain ⟨h1, h2, h3, h4⟩ := need_le S k
    have e := bal_is (S := S) (k + 1)
    have l1 := upTo_le S k
    have l2 := upTo_le S (k + 1)
    have m1 := upTo_mono S (j := k) (k := k + 1) (by omega)
    have m2 := downTo_mono S (j := k) (k := k + 1) (by omega)
    simp only [needA, needB]
    omega
theorem tok_facts {s : Sg} {S : ByteArray} (h : sgO s S = true) : dirB S = true ∧ ndA S ≤ (s.A.length : Int) ∧ ndB S ≤ (s.B.length : Int) := by
  obtain ⟨h1, h2⟩ := sgO_of h
  have hd : dirB S = true := dir_mk (by have := sgO_size h; omega) h2.only
  have q := need_le S S.size
  rw [h2.ups] at q
  have := h2.size
  refine ⟨hd, ?_, ?_⟩
  · unfold ndA; rw [hd, if_pos rfl]; omega
  · unfold ndB; rw [hd, if_pos rfl]; omega
theorem kind_facts {S : ByteArray} (hd : dirB S = true) (h0 : 0 < S.size) {a : Int} (ha : a = endOf (bt S 0)) : skOk a S = true ∧ skS a S = kdS S ∧ cntTo (kdS S) 83 (kdS S).size = chN S := by
  have h1 : a = 0 ∨ a = 1 := by rw [ha]; unfold endOf; split <;> simp
  have h2 : skOk a S = true := by rw [sk_is ⟨h1, hd⟩]; exact decide_eq_true (.inr ha.symm)
  exact ⟨h2, sk_yes h2, cnt_all hd h0⟩

set_option maxRecDepth 100000 in
set_option maxHeartbeats 8000000 in
theorem walk_FnSingleTokens (a0 : Option Addr) (len0 cap0 : Nat) (z0 : List Int) (w : World) (w0 : IsRowK .u8 w a0 len0 cap0 z0) (hm : ∃ m : Int, w.cell? ⟨maxLenG, 0, none⟩ = some (.int .i64 m)) :
    Calls Tryd.prog 3 #[.slice a0 len0 cap0] w fun e w' => e = .returned (.bool true) ∧ Below w.heap.size w w' := by
  rcases Nat.lt_or_ge 1048576 len0 with hbig | hsm
  · have hb : (1048576 : Int) < (len0 : Int) := by omega
    go_enter Tryd.func3, Tryd.ntmps3
    go_wp2_with fail
    go_ret
    exact ⟨rfl, Below.refl _ _⟩
  have hb : (len0 : Int) ≤ 1048576 := by omega
  have DN := Lib.hid (drawOStarts w0 hsm)
  clear w0
  go_enter Tryd.func3, Tryd.ntmps3
  go_upto_region 4 with (go_at_call 4; refine DN.out.mono ?_; rintro e wA ⟨v, s, S, rfl, os, ss, hS, bA⟩; obtain ⟨a1, n1, c1, a2, n2, c2, rfl⟩ := os.form)
  have qB0 := Quad.new wA (.slice a1 n1 c1) (.slice a2 n2 c2) (.int .i64 s.run) (.int .i64 s.head) 25
  have bB := below_alloc wA (.cells #[.slice a1 n1 c1, .slice a2 n2 c2, .int .i64 s.run, .int .i64 s.head] 25)
  have sv := (os.sgV (by have := ss.la; omega) (by have := ss.lb; omega)).below bB
  obtain ⟨wB, hwB⟩ : ∃ X, X = wA.alloc (.cells #[.slice a1 n1 c1, .slice a2 n2 c2, .int .i64 s.run, .int .i64 s.head] 25) := ⟨_, rfl⟩
  rw [← hwB] at qB0 bB sv ⊢
  have BB := Lib.hid (bA.trans (bB.mono bA.size))
  have QB := Lib.hid qB0
  have IE := Lib.hid (fun (X : World) (b : Below wB.heap.size wB X) => implStarts (S := S) (sv.below b) (by omega))
  have SE := Lib.hid (fun (X : World) (b : Below wB.heap.size wB X) => specStarts (S := S) (sv.below b) (by omega))
  obtain ⟨i1, i2⟩ : Ints wB (.slice a1 n1 c1) s.A ∧ Ints wB (.slice a2 n2 c2) s.B := by
    obtain ⟨x, y, e, i1, i2⟩ := sv
    simp only [Value.agg.injEq, Array.mk.injEq, List.cons.injEq, and_true] at e
    obtain ⟨rfl, rfl, -⟩ := e
    exact ⟨i1, i2⟩
  have I1 := Lib.hid i1
  have I2 := Lib.hid i2
  have YL : (stV s S).length ≤ 100 := by
    cases q : sgO s S
    · rw [stV_no q]; exact Nat.zero_le _
    · rw [stV_yes q, stL_len]; exact hS
  obtain ⟨ys, hys⟩ : ∃ m, m = stV s S := ⟨_, rfl⟩
  have HY := Lib.hid hys
  rw [← hys] at IE SE YL
  obtain ⟨t, ht⟩ : ∃ m, m = sgO s S := ⟨_, rfl⟩
  rw [← ht] at IE SE
  have k0 := QB.out.cell0
  have k1 := QB.out.cell1
  have k2 := QB.out.cell2
  have k3 := QB.out.cell3
  have HS := Lib.hid hS
  have HT := Lib.hid ht.symm
  have YLi : (ys.length : Int) ≤ 100 := by omega
  have HYL := Lib.hid YL
  clear hys ht hwB qB0 bB sv os ss bA i1 i2
  go_upto_region 5 with (go_at_call 5; refine (IE.out _ (below_self _)).mono ?_; rintro e wC ⟨vo, rfl, oC, bC⟩)
  have l0 := (QB.out.below bC).cell0
  have l1 := (QB.out.below bC).cell1
  have l2 := (QB.out.below bC).cell2
  have l3 := (QB.out.below bC).cell3
  have BC := Lib.hid bC
  have OC := Lib.hid oC
  clear k0 k1 k2 k3 bC oC
  go_upto_region 6 with (go_at_call 6; refine (SE.out _ BC.out).mono ?_; rintro e wD ⟨vw, rfl, oD, bD⟩)
  have BD := Lib.hid (BC.out.trans (bD.mono BC.out.size))
  have OD := Lib.hid (OC.out.below bD)
  have SM := Lib.hid (fun (X : World) (b : Below wD.heap.size wD X) => by
    have q := sameInts ((OD.out.below b).ints (by have := HYL.out; omega)) ((oD.below b).ints (by have := HYL.out; omega))
    rw [decide_eq_true rfl] at q
    exact q)
  clear l0 l1 l2 l3 bD oD
  cases t
  · go_wp2_with (first
      | (go_at_call 7; refine (SM.out _ (below_self _)).mono ?_; rintro e wE ⟨rfl, bE⟩; clear BC)
      | (go_at_call 7; refine (SM.out _ bE).mono ?_; rintro e wF ⟨rfl, bF⟩))
    go_ret
    exact ⟨rfl, BB.out.trans ((BD.out.trans ((bE.trans (bF.mono bE.size)).mono BD.out.size)).mono BB.out.size)⟩
  go_upto_region 7 with (go_at_call 7; refine (SM.out _ (below_self _)).mono ?_; rintro e wE ⟨rfl, bE⟩)
  have BE := Lib.hid (BD.out.trans (bE.mono BD.out.size))
  obtain ⟨a5, n5, c5, rfl⟩ := own_is_slice OD.out
  have hn5 := (OD.out.below bE).ints (by have := HYL.out; omega)
  obtain ⟨_, _, e5, -⟩ := id hn5
  simp only [Value.slice.injEq] at e5
  obtain ⟨-, rfl, -⟩ := e5
  have YS := HY.out
  rw [stV_yes HT.out] at YS
  have YN : ys.length = S.size := by rw [YS, stL_len]
  have YA := Lib.hid (fun (k : Nat) (hk : k < S.size) => show ys.getD k 0 = stA s S k by rw [YS]; exact stL_at hk)
  have L1 := Lib.hid (show n1 = s.A.length from slice_len I1.out)
  have L2 := Lib.hid (show n2 = s.B.length from slice_len I2.out)
  have hn12 : (S.size : Int) ≤ 12 := by have := sgO_size HT.out; omega
  have OE := Lib.hid hn5
  have QE := Lib.hid (QB.out.below BE.out)
  have J1 := Lib.hid (I1.out.below BE.out)
  have J2 := Lib.hid (I2.out.below BE.out)
  have BZ := Lib.hid (BB.out.trans (BE.out.mono BB.out.size))
  have OO := Lib.hid (sgO_of HT.out).2
  have SG := Lib.hid (sgO_of HT.out).1
  rw [YN] at OE ⊢
  have EE := Lib.hid (below_self wE)
  have HMM := Lib.hid (maxlen_below hm BZ.out)
  obtain ⟨HD, TA, TB⟩ := tok_facts HT.out
  have hsz12 : S.size ≤ 12 := by omega
  have CN := Lib.hid (fun (X : World) => implNeeds S (by omega) X)
  have CK := Lib.hid (fun (a : Int) (X : World) => implStaffKinds a S (by omega) X)
  have CC := Lib.hid (fun (X : World) (b : Below wE.heap.size wE X) => implChanges S (by omega) X (maxlen_below HMM.out b))
  rw [HD] at CN
  have CNT := Lib.hid (fun (X : World) => (countOf (kdS S) (by rw [kdS_size]; omega) 83 X).mono (fun e w' (q : e = .returned (.int .i64 (cntTo (kdS S) 83 (kdS S).size)) ∧ X = w') => show e = .returned (.int .i64 (cntTo (kdS S) 83 (kdS S).size)) ∧ Below X.heap.size X w' from ⟨q.1, q.2 ▸ Below.refl _ _⟩))
  obtain ⟨na, hna⟩ : ∃ x, x = ndA S := ⟨_, rfl⟩
  obtain ⟨nb, hnb⟩ : ∃ x, x = ndB S := ⟨_, rfl⟩
  rw [← hna, ← hnb] at CN
  rw [← hna] at TA
  rw [← hnb] at TB
  obtain rfl := L1.out
  obtain rfl := L2.out
  have t1 : decide ((s.A.length : Int) < na) = false := decide_eq_false (by omega)
  have t2 : decide ((s.B.length : Int) < nb) = false := decide_eq_false (by omega)
  have HDD := Lib.hid HD
  have EE := Lib.hid (below_self wE)
  clear YS hn5 SM OD IE SE YLi bE BC TA TB hna hnb HD hm
  go_upto_region 9 with (go_at_call 8; refine (CN.out _).mono ?_; rintro e wF ⟨rfl, bF⟩)
  have BF := Lib.hid (EE.out.trans (bF.mono EE.out.size))
  have z0 := (QE.out.below BF.out).cell0
  have z1 := (QE.out.below BF.out).cell1
  clear bF
  rcases Nat.eq_zero_or_pos S.size with h0 | h0
  · have e1 : S.toList.isEmpty = true := by
      have : S.data.toList.length = 0 := by rw [Array.length_toList]; exact h0
      rw [ByteArray.toList_eq]; exact List.isEmpty_iff.2 (List.eq_nil_of_length_eq_zero this)
    have e2 : ((S.size : Int) == 0) = true := by rw [h0]; rfl
    have BY := Lib.hid (BZ.out.trans (BF.out.mono BZ.out.size))
    clear h0 hsz12 YN
    go_wp2_with fail
    go_ret
    exact ⟨rfl, BY.out⟩
  have e1 : S.toList.isEmpty = false := by
    cases q : S.toList.isEmpty
    · rfl
    · have : S.toList = [] := List.isEmpty_iff.1 q
      rw [ByteArray.toList_eq] at this
      have : S.data.toList.length = 0 := by rw [this]; rfl
      rw [Array.length_toList] at this
      have : S.size = 0 := this
      omega
  have hix : ∀ (w : World), (Instr.index 9 (.string S) (.int .i64 0)).run Tryd.prog w = .ok (.int .u8 (bt S 0)) w := index_at (S := S) (k := 0) h0
  have H0 := Lib.hid h0
  obtain ⟨x, hx⟩ : ∃ x, x = bt S 0 := ⟨_, rfl⟩
  rw [← hx] at hix
  have hx68 : x = 85 ∨ x = 68 := by rw [hx]; exact (dirB_of HDD.out).2 0 h0
  have HX := Lib.hid hx
  have hpos : (0 : Int) < (S.size : Int) := by omega
  clear hx h0 YN
  rcases hx68 with c | c
  · have t3 : (x == 68) = false := by rw [c]; rfl
    obtain ⟨k1, k2, k3⟩ := kind_facts HDD.out H0.out (a := 0) (by rw [← HX.out, c]; rfl)
    have CK0 := CK.out 0
    rw [k1, k2] at CK0
    have CNT0 := CNT.out
    rw [k3] at CNT0
    have CK0 := Lib.hid CK0
    have CNT0 := Lib.hid CNT0
    obtain ⟨ch, hch⟩ : ∃ x, x = chN S := ⟨_, rfl⟩
    rw [← hch] at CC CNT0
    have t4 : (ch == ch) = true := by simp
    clear hch k1 k2 k3 c CK CNT
    go_wp2_with (first
      | (go_at_call 9; refine (CK0.out _).mono ?_; rintro e wG ⟨rfl, bG⟩; have BG := Lib.hid (BF.out.trans (bG.mono BF.out.size)); clear bG)
      | (go_at_call 10; refine (CNT0.out _).mono ?_; rintro e wH ⟨rfl, bH⟩; have BH := Lib.hid (BG.out.trans (bH.mono BG.out.size)); clear bH)
      | (go_at_call 11; refine (CC.out _ BH.out).mono ?_; rintro e wI ⟨rfl, bI⟩; have BI := Lib.hid (BH.out.trans (bI.mono BH.out.size)); clear bI))
    go_ret
    exact ⟨rfl, BZ.out.trans (BI.out.mono BZ.out.size)⟩
  · have t3 : (x == 68) = true := by rw [c]; rfl
    obtain ⟨k1, k2, k3⟩ := kind_facts HDD.out H0.out (a := 1) (by rw [← HX.out, c]; rfl)
    have CK0 := CK.out 1
    rw [k1, k2] at CK0
    have CNT0 := CNT.out
    rw [k3] at CNT0
    have CK0 := Lib.hid CK0
    have CNT0 := Lib.hid CNT0
    obtain ⟨ch, hch⟩ : ∃ x, x = chN S := ⟨_, rfl⟩
    rw [← hch] at CC CNT0
    have t4 : (ch == ch) = true := by simp
    clear hch k1 k2 k3 c CK CNT
    go_wp2_with (first
      | (go_at_call 9; refine (CK0.out _).mono ?_; rintro e wG ⟨rfl, bG⟩; have BG := Lib.hid (BF.out.trans (bG.mono BF.out.size)); clear bG)
      | (go_at_call 10; refine (CNT0.out _).mono ?_; rintro e wH ⟨rfl, bH⟩; have BH := Lib.hid (BG.out.trans (bH.mono BG.out.size)); clear bH)
      | (go_at_call 11; refine (CC.out _ BH.out).mono ?_; rintro e wI ⟨rfl, bI⟩; have BI := Lib.hid (BH.out.trans (bI.mono BH.out.size)); clear bI))
    go_ret
    exact ⟨rfl, BZ.out.trans (BI.out.mono BZ.out.size)⟩

end Go.Proofs.YtlcmkocbpnekhaaDoor

namespace Go.Proofs.YtlcmkocbpnekhaaDoor.fnSingleTokens
open Go.ChangeShapes Go.WideShapes Go.ChangeAt Go.RowKit
open Go.ChangeMaps (open_string shut_string)
set_option linter.unusedVariables false

theorem own : ownKnob Tryd.prog.godebug = none := by kernel_rfl
theorem laidOut : laidOutB Tryd.prog = true := by kernel_rfl

abbrev lst : List (String × DataW Unit) := Rows.fnSingleTokensRow.laid

set_option maxRecDepth 100000 in
theorem lifted (os : Os) (started : os.Started) (H : Type) (enc : TypeId × Value → H) :
    ReturnsInHanded {} Tryd.checked os 3 .any (fun w args => (Rows.fnSingleTokensSpec.pre enc Tryd.prog Tryd.f3 Rows.fnSingleTokensRow.domain false w args ∧ laidMetH Tryd.prog lst w) ∧ sizedMet enc Tryd.prog Tryd.f3 (OpenSpec.ofChange Rows.fnSingleTokensSpec) false w args) (Rows.fnSingleTokensSpec.post enc Tryd.prog Tryd.f3 false true false false) := by
  refine returns_shaped (C := Tryd.checked) (X := fun w _ => laidMetH Tryd.prog lst w) (fun _ _ _ hh h => h.of_heap hh) own started (by kernel_rfl) Tryd.func3
    (ChangeSpec.witness_shaped (enc := enc) (C := Tryd.checked) (os := os) (X := fun w _ => laidMetH Tryd.prog lst w) false (World.laidAll Tryd.prog os lst) #[.slice none 0 0] 8 (World.laidAll_os _ _ _)
      (World.shaped_of_ZipB (by kernel_rfl) (by kernel_rfl)) (by kernel_rfl) (by kernel_rfl) (by kernel_rfl)
      (by rw [MakeChecks.laidMetH_plain _ _ _ (by kernel_rfl)]; exact laidMet_laidAll _ (by kernel_rfl) (by kernel_rfl))) ?_
  intro W base args ds gs before hshape hval0 hW hcnd _ hL _
  have hval : ∀ (j : Nat) t v, Tryd.f3.params[j]? = some t → args[j]? = some v → Value.okWide Tryd.prog W .any base t v := hval0
  have hW' := hW
  obtain ⟨p, q, hA0, hV, rfl, hfz, hnd⟩ := hW
  have hA : DataW.TrodAll enc Tryd.prog W 0 (fun _ => true) true Tryd.f3.params.toList args.toList ds p := hA0
  rw [Tryd.params3] at hA hval
  obtain ⟨v0, vs0, d0, ds0, p0, q0, hargs, rfl, rfl, h0, r0⟩ := trodAll_cons hA
  obtain ⟨rfl, rfl, rfl⟩ := trodAll_nil r0
  obtain rfl : args = #[v0] := by cases args; simp_all
  obtain ⟨rfl, rfl⟩ := trodVars_none hV
  obtain ⟨a0, len0, cap0, rfl⟩ := okWide_slice Tryd.underlying22 (hval 0 22 v0 rfl rfl)
  have k0 := h0
  have lt0 : ∀ x ∈ p0, x.block < W.heap.size := by obtain ⟨m, hm⟩ := k0; exact DataW.trod_lt m _ _ _ hm
  obtain ⟨z0, w0⟩ : ∃ zs, IsRowK .u8 W a0 len0 cap0 zs := by
    obtain ⟨fuel, hf⟩ := h0
    rcases open_ints Tryd.underlying22 Tryd.underlying5 (by kernel_rfl) hf with ⟨hcs, _⟩ | ⟨x, l, c, zs, hcs, _, hl, hm, hz, _, hcell, hwz⟩
    · simp [Value.cells] at hcs
      obtain ⟨rfl, rfl, rfl⟩ := hcs
      exact ⟨[], .inl ⟨rfl, rfl, rfl, rfl⟩⟩
    · simp [Value.cells] at hcs
      obtain ⟨rfl, rfl, rfl⟩ := hcs
      exact ⟨zs, .inr ⟨_, rfl, hl, hm, by simpa using hz, hcell, hwz⟩⟩
  clear hA0 hval0
  refine (walk_FnSingleTokens a0 len0 cap0 z0 W w0 (maxlen_cell hshape)).mono fun e W' ⟨he, bel⟩ => ?_
  subst he
  exact ⟨_, rfl, _, _, _, [], _, [], hW', trodAll_mk1 (shut_bool Tryd.underlying4 _), (trodAll_cons_mk (Below.trod laidOut (by kernel_rfl) (of_decide_eq_true (by kernel_rfl)) k0 bel lt0) trodAll_mk0), rfl, bel.frame _, fun h => by cases h⟩

theorem closed : joinedFacts Tryd.checked.prog 3 Tryd.f3 Rows.fnSingleTokensSpec Rows.fnSingleTokensRow = true := by
  unfold joinedFacts
  simp only [Bool.and_eq_true]
  repeat' (refine And.intro ?_ ?_)
  all_goals first
    | with_reducible exact may_enter
    | (rw [lifts_final]; kernel_rfl)
    | (rw [make_is]; kernel_rfl)
    | kernel_rfl

theorem over : Rows.fnSingleTokensRow.holds Tryd.pinned (OpenSpec.ofChange Rows.fnSingleTokensSpec) :=
  OpenClaim.holds_of_wide 3 Tryd.f3 rfl rfl rfl rfl rfl rfl rfl ⟨rfl, rfl, rfl, rfl, rfl⟩ rfl rfl rfl rfl rfl (by kernel_rfl) Tryd.func3 closed
    (of_decide_eq_true (by kernel_rfl)) (by unfold Func.isWrapper; first | (rw [if_pos (by decide +kernel)]; kernel_rfl) | (rw [if_neg (by decide +kernel)]; exact ⟨rfl, rfl⟩))
    (fun os started H enc _ => lifted os started H enc)

set_option maxRecDepth 100000 in
theorem proved : Rows.FnSingleTokensCardSaid :=
  Claim7.holds_tied_plain_at .later [] [.data, .pinned] true (true, "4b561ca4b26857628638d47a331bb63ba6ec63a650b36387fa0c64a03d0e4d46") false over (fun _ h => by cases h) (by kernel_rfl) (fun _ h => by cases h) fnSingleTokens_row_tie rfl ⟨rfl, rfl⟩ (by kernel_rfl) rfl
    (fun f fn hf hfn => by
      obtain rfl : f = 3 := Option.some.inj ((show Tryd.prog.funcNamed "loop.example/blockboxes/laws.FnSingleTokens" = some 3 by kernel_rfl).symm.trans hf) |>.symm
      obtain rfl : fn = Tryd.f3 := (Option.some.inj (Tryd.func3.symm.trans hfn)).symm
      exact ⟨by kernel_rfl, fun j t ht => by
        rw [Tryd.params3] at ht
        have hm : t ∈ [22] := by simpa using Array.mem_of_getElem? ht
        have hall : ([22].all fun u => !Tryd.prog.wantsStandIn u) = true := by kernel_rfl
        exact (show Tryd.prog.wantsStandIn t = false by simpa using List.all_eq_true.1 hall t hm)⟩)
    (by kernel_rfl)
#print axioms proved
end Go.Proofs.YtlcmkocbpnekhaaDoor.fnSingleTokens
