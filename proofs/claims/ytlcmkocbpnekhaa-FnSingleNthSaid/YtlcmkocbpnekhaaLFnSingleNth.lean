/-
  For every input the law 'FnSingleNth' returns true, and each of its arguments reads behind the call as it read before. Conditions: none beyond those of the row.
-/
import Derived.Test.YtlcmkocbpnekhaaRows
import Derived.WalkKit
import Derived.ProofKit
import Derived.OpenShut
import Derived.ShutString
import Derived.ChangeOld
import Derived.Below
import Derived.Deep.Matrix
import Derived.Test.YtlcmkocbpnekhaaIo
import Derived.Test.YtlcmkocbpnekhaaDrN
import Derived.Test.YtlcmkocbpnekhaaSgR
import Derived.Test.YtlcmkocbpnekhaaSgF
import Derived.Deep.RegionHeld3
namespace Go.Proofs.Ytlcmkocbpnekhaa
open Go.RowKit

/-- Each order is less than the next. -/
theorem up_at (n : Nat) : ∀ u d, u + d = n → ∀ k, k + 1 < (allF n u d).length → lsB ((allF n u d).getD k ⟨#[]⟩) ((allF n u d).getD (k + 1) ⟨#[]⟩) = true := by
  induction n with
  | zero =>
    intro u d h k hk
    simp [allF] at hk
  | succ n ih =>
    intro u d h k hk
    obtain ⟨A, hA⟩ : ∃ A, A = (if 0 < d then (allF n u (d - 1)).map (fun o => sD ++ o) else []) := ⟨_, rfl⟩
    obtain ⟨B, hB⟩ : ∃ B, B = (if 0 < u then (allF n (u - 1) d).map (fun o => sU ++ o) else []) := ⟨_, rfl⟩
    have e : allF (n + 1) u d = A ++ B := by rw [hA, hB]; rfl
    rw [e] at hk ⊢
    rw [List.length_append] at hk
    have inA : ∀ k, k < A.length → (A ++ B).getD k ⟨#[]⟩ = sD ++ (allF n u (d - 1)).getD k ⟨#[]⟩ ∧ k < (allF n u (d - 1)).length ∧ 0 < d := by
      intro k hl
      rw [List.getD_eq_getElem?_getD, List.getElem?_append_left hl, ← List.getD_eq_getElem?_getD]
      have hd : 0 < d := by
        rcases Nat.eq_zero_or_pos d with q | q
        · rw [hA, q] at hl; exact absurd hl (Nat.not_lt_zero _)
        · exact q
      rw [if_pos hd] at hA
      rw [hA, List.length_map] at hl
      exact ⟨by rw [hA]; exact getD_map_put sD _ k hl, hl, hd⟩
    have inB : ∀ k, A.length ≤ k → k < A.length + B.length → (A ++ B).getD k ⟨#[]⟩ = sU ++ (allF n (u - 1) d).getD (k - A.length) ⟨#[]⟩ ∧ k - A.length < (allF n (u - 1) d).length ∧ 0 < u := by
      intro k hl hk
      rw [List.getD_eq_getElem?_getD, List.getElem?_append_right hl, ← List.getD_eq_getElem?_getD]
      have hjl : k - A.length < B.length := by omega
      have hu : 0 < u := by
        rcases Nat.eq_zero_or_pos u with q | q
        · rw [hB, q] at hjl; exact absurd hjl (Nat.not_lt_zero _)
        · exact q
      rw [if_pos hu] at hB
      rw [hB, List.length_map] at hjl
      exact ⟨by rw [hB]; exact getD_map_put sU _ _ hjl, hjl, hu⟩
    rcases Nat.lt_or_ge (k + 1) A.length with hl | hl
    · obtain ⟨e1, l1, hd⟩ := inA k (by omega)
      obtain ⟨e2, l2, -⟩ := inA (k + 1) hl
      rw [e1, e2]
      show lsB ((⟨#[68]⟩ : ByteArray) ++ _) ((⟨#[68]⟩ : ByteArray) ++ _) = true
      rw [lsB_put, ih u (d - 1) (by omega) k l2]
      rfl
    · rcases Nat.lt_or_ge k A.length with hl2 | hl2
      · obtain ⟨e1, -, -⟩ := inA k hl2
        obtain ⟨e2, -, -⟩ := inB (k + 1) hl (by omega)
        rw [e1, e2]
        show lsB ((⟨#[68]⟩ : ByteArray) ++ _) ((⟨#[85]⟩ : ByteArray) ++ _) = true
        rw [lsB_put]
        rfl
      · obtain ⟨e1, l1, hu⟩ := inB k hl2 (by omega)
        obtain ⟨e2, l2, -⟩ := inB (k + 1) hl (by omega)
        have e3 : k + 1 - A.length = k - A.length + 1 := by omega
        rw [e3] at e2 l2
        rw [e1, e2]
        show lsB ((⟨#[85]⟩ : ByteArray) ++ _) ((⟨#[85]⟩ : ByteArray) ++ _) = true
        rw [lsB_put, ih (u - 1) d (by omega) (k - A.length) l2]
        rfl
theorem nth_facts {s : Sg} {rk : Int} (h : nthB s rk = true) : sgO s (nthS s rk) = true ∧ rankV s (nthS s rk) = rk ∧ (nthS s rk).size ≤ 12 ∧ 0 ≤ rk ∧ rk ≤ 4096 ∧ -1 ≤ manyV s ∧ manyV s ≤ 4096 ∧ (nthB s (rk + 1) = true → Op.bytesLess (nthS s rk).toList (nthS s (rk + 1)).toList = true) ∧ (nthB s (rk + 1) = false → rk = manyV s - 1) := by
  obtain ⟨hs, h0, hl⟩ := nthB_sg h
  have mv := manyV_yes hs
  have ml : mny s.A.length s.B.length ≤ 4096 := mny_le (by have := (sgB_of hs).lenA; have := (sgB_of hs).lenB; omega)
  rw [← ords_len] at hl ml mv
  obtain ⟨k, hk⟩ : ∃ k, k = rk.toNat := ⟨_, rfl⟩
  have hrk : rk = (k : Int) := by omega
  rw [← hk] at hl
  have e : nthS s rk = (ords s).getD k ⟨#[]⟩ := by rw [nthS_yes h, hk]; rfl
  have ok := ords_ok hs (getD_in hl)
  refine ⟨by rw [e]; exact ok, ?_, by rw [e]; exact ords_size hs (getD_in hl), h0, by omega, by omega, by omega, fun q => ?_, fun q => ?_⟩
  · rw [e, rankV_yes ok, hrk]
    exact congrArg Int.ofNat (less_at (s.A.length + s.B.length) s.A.length s.B.length rfl k hl)
  · obtain ⟨-, -, hl2⟩ := nthB_sg q
    have e2 : nthS s (rk + 1) = (ords s).getD (k + 1) ⟨#[]⟩ := by
      rw [nthS_yes q, hrk]
      have : ((k : Int) + 1).toNat = k + 1 := by omega
      rw [this]; rfl
    rw [e, e2]
    refine up_at (s.A.length + s.B.length) s.A.length s.B.length rfl k ?_
    rw [← ords_len] at hl2
    have : (rk + 1).toNat = k + 1 := by omega
    rw [this] at hl2
    exact hl2
  · have := of_decide_eq_false q
    omega

set_option maxRecDepth 100000 in
set_option maxHeartbeats 8000000 in
theorem walk_FnSingleNth (a0 : Option Addr) (len0 cap0 : Nat) (z0 : List Int) (w : World) (w0 : IsRowK .u8 w a0 len0 cap0 z0) :
    Calls Try.prog 4 #[.slice a0 len0 cap0] w fun e w' => e = .returned (.bool true) ∧ Below w.heap.size w w' := by
  rcases Nat.lt_or_ge 1048576 len0 with hbig | hsm
  · have hb : (1048576 : Int) < (len0 : Int) := by omega
    go_enter Try.func4, Try.ntmps4
    go_wp2_with fail
    go_ret
    exact ⟨rfl, Below.refl _ _⟩
  have hb : (len0 : Int) ≤ 1048576 := by omega
  have DN := Lib.hid (drawSNth w0 hsm)
  clear w0
  go_enter Try.func4, Try.ntmps4
  go_upto_region 4 with (go_at_call 14; refine DN.out.mono ?_; rintro e wA ⟨v, s, rk, rfl, os, ss, hrk, bA⟩; obtain ⟨a1, n1, c1, a2, n2, c2, rfl⟩ := os.form)
  have qB0 := Quad.new wA (.slice a1 n1 c1) (.slice a2 n2 c2) (.int .i64 s.run) (.int .i64 s.head) 25
  have bB := below_alloc wA (.cells #[.slice a1 n1 c1, .slice a2 n2 c2, .int .i64 s.run, .int .i64 s.head] 25)
  have sv := (os.sgV (by have := ss.la; omega) (by have := ss.lb; omega)).below bB
  obtain ⟨wB, hwB⟩ : ∃ X, X = wA.alloc (.cells #[.slice a1 n1 c1, .slice a2 n2 c2, .int .i64 s.run, .int .i64 s.head] 25) := ⟨_, rfl⟩
  rw [← hwB] at qB0 bB sv ⊢
  have BB := Lib.hid (bA.trans (bB.mono bA.size))
  have QB := Lib.hid qB0
  have IN := Lib.hid (fun (X : World) (b : Below wB.heap.size wB X) (k : Int) => implNth (rk := k) (sv.below b))
  have SN := Lib.hid (fun (X : World) (b : Below wB.heap.size wB X) => specNth (rk := rk) (sv.below b) hrk)
  have IM := Lib.hid (fun (X : World) (b : Below wB.heap.size wB X) => implMany (sv.below b))
  have IS := Lib.hid (fun (X : World) (b : Below wB.heap.size wB X) (o : ByteArray) (ho : o.size ≤ 12) => implStarts (S := o) (sv.below b) (by omega))
  have IR := Lib.hid (fun (X : World) (b : Below wB.heap.size wB X) (o : ByteArray) (ho : o.size ≤ 12) => implRank (S := o) (sv.below b) (by omega))
  have IN0 := fun (X : World) (b : Below wB.heap.size wB X) => IN.out X b rk
  have SN0 := SN.out
  obtain ⟨O, hO⟩ : ∃ m, m = nthS s rk := ⟨_, rfl⟩
  obtain ⟨t, ht⟩ : ∃ m, m = nthB s rk := ⟨_, rfl⟩
  rw [← hO, ← ht] at IN0 SN0
  have NF := Lib.hid (fun (q : t = true) => nth_facts (s := s) (rk := rk) (by rw [← ht]; exact q))
  rw [← hO] at NF
  have IN0 := Lib.hid IN0
  have SN0 := Lib.hid SN0
  have k0 := QB.out.cell0
  have k1 := QB.out.cell1
  have k2 := QB.out.cell2
  have k3 := QB.out.cell3
  clear hO ht hwB qB0 bB sv os ss bA hrk SN
  go_upto_region 5 with (go_at_call 15; refine (IN0.out _ (below_self _)).mono ?_; rintro e wC ⟨rfl, bC⟩)
  have l0 := (QB.out.below bC).cell0
  have l1 := (QB.out.below bC).cell1
  have l2 := (QB.out.below bC).cell2
  have l3 := (QB.out.below bC).cell3
  have BC := Lib.hid bC
  clear k0 k1 k2 k3 bC
  go_upto_region 6 with (go_at_call 16; refine (SN0.out _ BC.out).mono ?_; rintro e wD ⟨rfl, bD⟩)
  have BD := Lib.hid (BC.out.trans (bD.mono BC.out.size))
  clear l0 l1 l2 l3 bD
  have t1 : (O.toList != O.toList) = false := by simp
  have t2 : (O.toList == O.toList) = true := by simp
  cases t
  · go_wp2_with fail
    go_ret
    exact ⟨rfl, BB.out.trans (BD.out.mono BB.out.size)⟩
  obtain ⟨F1, F2, F3, F4, F5, F6, F7, F8, F9⟩ := NF.out rfl
  have hw1 : wrap64 (rk + 1) = rk + 1 := IntWalk.wrap64_in _ (by omega)
  have IN1 := IN.out _ BD.out (rk + 1)
  have IS1 := fun (X : World) (b : Below wB.heap.size wB X) => IS.out X b O F3
  have IR1 := fun (X : World) (b : Below wB.heap.size wB X) => IR.out X b O F3
  rw [F1] at IS1
  rw [F2] at IR1
  obtain ⟨O2, hO2⟩ : ∃ m, m = nthS s (rk + 1) := ⟨_, rfl⟩
  obtain ⟨p, hp⟩ : ∃ m, m = nthB s (rk + 1) := ⟨_, rfl⟩
  rw [← hO2, ← hp] at IN1
  rw [← hO2, ← hp] at F8
  rw [← hp] at F9
  obtain ⟨m, hm⟩ : ∃ m, m = manyV s := ⟨_, rfl⟩
  have IM1 := IM.out
  rw [← hm] at F9 F7 F6 IM1
  have IM1 := Lib.hid IM1
  have IN1 := Lib.hid IN1
  have IS1 := Lib.hid IS1
  have IR1 := Lib.hid IR1
  have F8 := Lib.hid F8
  have F9 := Lib.hid F9
  have HK := Lib.hid (And.intro F4 F5)
  have HM := Lib.hid (And.intro F6 F7)
  have l0 := (QB.out.below BD.out).cell0
  have l1 := (QB.out.below BD.out).cell1
  have l2 := (QB.out.below BD.out).cell2
  have l3 := (QB.out.below BD.out).cell3
  clear F1 F2 F3 F4 F5 F6 F7 hO2 hp hm IN SN0 IM IS IR IN0 NF
  go_upto_region 9 with (go_at_call 15; refine IN1.out.mono ?_; rintro e wE ⟨rfl, bE⟩)
  have BE := Lib.hid (BD.out.trans (bE.mono BD.out.size))
  clear l0 l1 l2 l3 bE hw1
  have l0 := (QB.out.below BE.out).cell0
  have l1 := (QB.out.below BE.out).cell1
  have l2 := (QB.out.below BE.out).cell2
  have l3 := (QB.out.below BE.out).cell3
  go_upto_region 10 with (go_at_call 11; refine (IS1.out _ BE.out).mono ?_; rintro e wF ⟨vs, rfl, os, bF⟩; obtain ⟨sx, sn, sc, rfl⟩ := own_is_slice os)
  have BF := Lib.hid (BE.out.trans (bF.mono BE.out.size))
  clear l0 l1 l2 l3 bF os
  have c0 := (QB.out.below BF.out).cell0
  have c1' := (QB.out.below BF.out).cell1
  have c2' := (QB.out.below BF.out).cell2
  have c3 := (QB.out.below BF.out).cell3
  have e1 : (rk == rk) = true := by simp
  cases p
  · have e9 := F9.out rfl
    have hmm := HM.out
    have hw2 : wrap64 (m - 1) = m - 1 := IntWalk.wrap64_in _ (by omega)
    have e2 : (rk == m - 1) = true := by simp [e9]
    clear e9 hmm
    go_wp2_with (first
      | (go_at_call 17; refine (IR1.out _ BF.out).mono ?_; rintro e wG ⟨rfl, bG⟩; have BG := Lib.hid (BF.out.trans (bG.mono BF.out.size)); have m0 := (QB.out.below BG.out).cell0; have m1 := (QB.out.below BG.out).cell1; have m2 := (QB.out.below BG.out).cell2; have m3 := (QB.out.below BG.out).cell3; clear c0 c1' c2' c3 bG)
      | (go_at_call 18; refine (IM1.out _ BG.out).mono ?_; rintro e wH ⟨rfl, bH⟩; have BH := Lib.hid (BG.out.trans (bH.mono BG.out.size)); clear m0 m1 m2 m3 bH))
    go_ret
    exact ⟨rfl, BB.out.trans (BH.out.mono BB.out.size)⟩
  · have e8 := F8.out rfl
    go_wp2_with (go_at_call 17; refine (IR1.out _ BF.out).mono ?_; rintro e wG ⟨rfl, bG⟩; have BG := Lib.hid (BF.out.trans (bG.mono BF.out.size)); clear c0 c1' c2' c3 bG)
    go_ret
    exact ⟨rfl, BB.out.trans (BG.out.mono BB.out.size)⟩

end Go.Proofs.Ytlcmkocbpnekhaa

namespace Go.Proofs.Ytlcmkocbpnekhaa.fnSingleNth
open Go.ChangeShapes Go.WideShapes Go.ChangeAt Go.RowKit
open Go.ChangeMaps (open_string shut_string)
set_option linter.unusedVariables false

theorem own : ownKnob Try.prog.godebug = none := by kernel_rfl
theorem laidOut : laidOutB Try.prog = true := by kernel_rfl

set_option maxRecDepth 100000 in
theorem lifted (os : Os) (started : os.Started) (H : Type) (enc : TypeId × Value → H) :
    ReturnsInHanded {} Try.checked os 4 .any (Rows.fnSingleNthSpec.pre6 enc Try.prog Try.f4 Rows.fnSingleNthRow.domain false) (Rows.fnSingleNthSpec.post enc Try.prog Try.f4 false true false false) := by
  refine returnsInHanded_of_change (C := Try.checked) own started (by kernel_rfl) Try.func4
    (ChangeSpec.witness6 (enc := enc) (C := Try.checked) false ⟨#[], #[.slice none 0 0], []⟩ 8 (by kernel_rfl) (by kernel_rfl) (by kernel_rfl) (by kernel_rfl)) ?_
  intro W base args ds gs before hval0 hW hcnd _
  have hval : ∀ (j : Nat) t v, Try.f4.params[j]? = some t → args[j]? = some v → Value.okWide Try.prog W .any base t v := hval0
  have hW' := hW
  obtain ⟨p, q, hA0, hV, rfl, hfz, hnd⟩ := hW
  have hA : DataW.TrodAll enc Try.prog W 0 (fun _ => true) true Try.f4.params.toList args.toList ds p := hA0
  rw [Try.params4] at hA hval
  obtain ⟨v0, vs0, d0, ds0, p0, q0, hargs, rfl, rfl, h0, r0⟩ := trodAll_cons hA
  obtain ⟨rfl, rfl, rfl⟩ := trodAll_nil r0
  obtain rfl : args = #[v0] := by cases args; simp_all
  obtain ⟨rfl, rfl⟩ := trodVars_none hV
  obtain ⟨a0, len0, cap0, rfl⟩ := okWide_slice Try.underlying22 (hval 0 22 v0 rfl rfl)
  have k0 := h0
  have lt0 : ∀ x ∈ p0, x.block < W.heap.size := by obtain ⟨m, hm⟩ := k0; exact DataW.trod_lt m _ _ _ hm
  obtain ⟨z0, w0⟩ : ∃ zs, IsRowK .u8 W a0 len0 cap0 zs := by
    obtain ⟨fuel, hf⟩ := h0
    rcases open_ints Try.underlying22 Try.underlying5 (by kernel_rfl) hf with ⟨hcs, _⟩ | ⟨x, l, c, zs, hcs, _, hl, hm, hz, _, hcell, hwz⟩
    · simp [Value.cells] at hcs
      obtain ⟨rfl, rfl, rfl⟩ := hcs
      exact ⟨[], .inl ⟨rfl, rfl, rfl, rfl⟩⟩
    · simp [Value.cells] at hcs
      obtain ⟨rfl, rfl, rfl⟩ := hcs
      exact ⟨zs, .inr ⟨_, rfl, hl, hm, by simpa using hz, hcell, hwz⟩⟩
  clear hA0 hval0
  refine (walk_FnSingleNth a0 len0 cap0 z0 W w0).mono fun e W' ⟨he, bel⟩ => ?_
  subst he
  exact ⟨_, rfl, _, _, _, [], _, [], hW', trodAll_mk1 (shut_bool Try.underlying4 _), (trodAll_cons_mk (Below.trod laidOut (by kernel_rfl) (of_decide_eq_true (by kernel_rfl)) k0 bel lt0) trodAll_mk0), rfl, bel.frame _, fun h => by cases h⟩

theorem closed : joinedFacts Try.checked.prog 4 Try.f4 Rows.fnSingleNthSpec Rows.fnSingleNthRow = true := by
  unfold joinedFacts
  simp only [Bool.and_eq_true]
  repeat' (refine And.intro ?_ ?_)
  all_goals first
    | with_reducible exact may_enter
    | (rw [lifts_final]; kernel_rfl)
    | (rw [make_is]; kernel_rfl)
    | kernel_rfl

theorem over : Rows.fnSingleNthRow.holds Try.pinned (OpenSpec.ofChange Rows.fnSingleNthSpec) :=
  OpenClaim.holds_of_wide 4 Try.f4 rfl rfl rfl rfl rfl rfl rfl ⟨rfl, rfl, rfl, rfl, rfl⟩ rfl rfl rfl rfl rfl (by kernel_rfl) Try.func4 closed
    (of_decide_eq_true (by kernel_rfl)) (by unfold Func.isWrapper; first | (rw [if_pos (by decide +kernel)]; kernel_rfl) | (rw [if_neg (by decide +kernel)]; exact ⟨rfl, rfl⟩))
    (fun os started H enc _ => lifted os started H enc)

theorem proved : Rows.FnSingleNthSaid := over
#print axioms proved
end Go.Proofs.Ytlcmkocbpnekhaa.fnSingleNth
