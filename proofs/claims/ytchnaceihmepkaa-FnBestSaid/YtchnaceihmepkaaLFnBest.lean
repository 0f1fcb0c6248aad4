/-
  For every input the law 'FnBest' returns true, and each of its arguments reads behind the call as it read before. Conditions: none beyond those of the row.
-/
import Derived.Test.YtchnaceihmepkaaRows
import Derived.WalkKit
import Derived.ProofKit
import Derived.OpenShut
import Derived.ShutString
import Derived.ChangeOld
import Derived.Below
import Derived.Deep.Matrix
import Derived.Test.YtchnaceihmepkaaIo
import Derived.Test.YtchnaceihmepkaaDrGs
import Derived.Test.YtchnaceihmepkaaSgO
import Derived.Test.YtchnaceihmepkaaSgQ
import Derived.Deep.RegionHeld3
namespace Go.Proofs.Ytchnaceihmepkaa
open Go.RowKit

/-- The first least one stands at a place, and those ahead of it are greater. -/
theorem ls_first {f : ByteArray → Int} {L : List ByteArray} (hn : ∀ o ∈ L, 0 ≤ f o) : ∀ k, k ≤ L.length → (0 < k → 0 ≤ (lsOf f (L.take k)).2 ∧ ∃ j, j < k ∧ lsOf f (L.take k) = (L.getD j ⟨#[]⟩, f (L.getD j ⟨#[]⟩)) ∧ ∀ i, i < j → f (L.getD j ⟨#[]⟩) < f (L.getD i ⟨#[]⟩)) ∧ ∀ j, j < k → (lsOf f (L.take k)).2 ≤ f (L.getD j ⟨#[]⟩) := by
  intro k
  induction k with
  | zero => intro _; exact ⟨fun h => absurd h (Nat.lt_irrefl 0), fun j h => absurd h (Nat.not_lt_zero j)⟩
  | succ k ih =>
    intro hk
    obtain ⟨h1, h2⟩ := ih (by omega)
    have h0 := hn _ (getD_in (k := k) (l := L) (by omega))
    rw [take_next' L (by omega), lsOf_add]
    unfold lsStep
    by_cases q : (lsOf f (L.take k)).2 < 0 ∨ f (L.getD k ⟨#[]⟩) < (lsOf f (L.take k)).2
    · rw [if_pos q]
      have hall : ∀ i, i < k → f (L.getD k ⟨#[]⟩) < f (L.getD i ⟨#[]⟩) := by
        intro i hi
        have a := h2 i hi
        have b := (h1 (by omega)).1
        omega
      refine ⟨fun _ => ⟨h0, k, by omega, rfl, hall⟩, fun j hj => ?_⟩
      show f (L.getD k ⟨#[]⟩) ≤ f (L.getD j ⟨#[]⟩)
      rcases Nat.lt_or_ge j k with hjk | hjk
      · exact Int.le_of_lt (hall j hjk)
      · obtain rfl : j = k := by omega
        exact Int.le_refl _
    · rw [if_neg q]
      have hk0 : 0 < k := by
        rcases Nat.eq_zero_or_pos k with e | e
        · subst e; exact absurd (Or.inl (by rw [List.take_zero]; exact (by decide : (-1 : Int) < 0))) q
        · exact e
      obtain ⟨b, j, hj, e, g⟩ := h1 hk0
      refine ⟨fun _ => ⟨b, j, by omega, e, g⟩, fun i hi => ?_⟩
      rcases Nat.lt_or_ge i k with hik | hik
      · exact h2 i hik
      · obtain rfl : i = k := by omega
        omega
/-- The order at a place has just those ahead of it that are less. -/
theorem less_at (n : Nat) : ∀ u d, u + d = n → ∀ k, k < (allF n u d).length → lessN ((allF n u d).getD k ⟨#[]⟩) (allF n u d) = k := by
  induction n with
  | zero =>
    intro u d h k hk
    obtain rfl : k = 0 := by simp [allF] at hk; exact hk
    show (if lsB ⟨#[]⟩ ⟨#[]⟩ then 1 else 0) + 0 = 0
    have e2 : lsB ⟨#[]⟩ ⟨#[]⟩ = false := by unfold lsB; rw [ByteArray.toList_eq]; rfl
    rw [e2]; rfl
  | succ n ih =>
    intro u d h k hk
    obtain ⟨A, hA⟩ : ∃ A, A = (if 0 < d then (allF n u (d - 1)).map (fun o => sD ++ o) else []) := ⟨_, rfl⟩
    obtain ⟨B, hB⟩ : ∃ B, B = (if 0 < u then (allF n (u - 1) d).map (fun o => sU ++ o) else []) := ⟨_, rfl⟩
    have e : allF (n + 1) u d = A ++ B := by rw [hA, hB]; rfl
    rw [e] at hk ⊢
    rw [List.length_append] at hk
    rw [lessN_app]
    rcases Nat.lt_or_ge k A.length with hl | hl
    · rw [List.getD_eq_getElem?_getD, List.getElem?_append_left hl, ← List.getD_eq_getElem?_getD]
      have hd : 0 < d := by
        rcases Nat.eq_zero_or_pos d with q | q
        · rw [hA, q] at hl; exact absurd hl (Nat.not_lt_zero _)
        · exact q
      rw [if_pos hd] at hA
      rw [hA, List.length_map] at hl
      have e1 : A.getD k ⟨#[]⟩ = sD ++ (allF n u (d - 1)).getD k ⟨#[]⟩ := by rw [hA]; exact getD_map_put sD _ k hl
      rw [e1]
      have e2 : lessN (sD ++ (allF n u (d - 1)).getD k ⟨#[]⟩) A = k := by rw [hA]; exact (lessN_same 68 _ _).trans (ih u (d - 1) (by omega) k hl)
      have e3 : lessN (sD ++ (allF n u (d - 1)).getD k ⟨#[]⟩) B = 0 := by
        rw [hB]; split
        · exact lessN_none _ _
        · rfl
      omega
    · obtain ⟨j, rfl⟩ : ∃ j, k = A.length + j := ⟨k - A.length, by omega⟩
      rw [List.getD_eq_getElem?_getD, List.getElem?_append_right (by omega), ← List.getD_eq_getElem?_getD, Nat.add_sub_cancel_left]
      have hjl : j < B.length := by omega
      have hu : 0 < u := by
        rcases Nat.eq_zero_or_pos u with q | q
        · rw [hB, q] at hjl; exact absurd hjl (Nat.not_lt_zero _)
        · exact q
      rw [if_pos hu] at hB
      rw [hB, List.length_map] at hjl
      have e1 : B.getD j ⟨#[]⟩ = sU ++ (allF n (u - 1) d).getD j ⟨#[]⟩ := by rw [hB]; exact getD_map_put sU _ j hjl
      rw [e1]
      have e2 : lessN (sU ++ (allF n (u - 1) d).getD j ⟨#[]⟩) B = j := by rw [hB]; exact (lessN_same 85 _ _).trans (ih (u - 1) d (by omega) j hjl)
      have e3 : lessN (sU ++ (allF n (u - 1) d).getD j ⟨#[]⟩) A = A.length := by
        rw [hA]; split
        · rw [List.length_map]; exact lessN_all _ _
        · rfl
      omega
theorem best_facts {s : Sg} (h : sgB s = true) : ∃ j, j < (ords s).length ∧ bestV s = (ords s).getD j ⟨#[]⟩ ∧ rankV s (bestV s) = (j : Int) ∧ 0 ≤ waitV s (bestV s) ∧ ∀ k, k < (ords s).length → waitV s (bestV s) ≤ waitV s ((ords s).getD k ⟨#[]⟩) ∧ (k < j → waitV s (bestV s) < waitV s ((ords s).getD k ⟨#[]⟩)) := by
  have e : bestV s = (lsOf (waitV s) (ords s)).1 := by simp [bestV, h]
  have q := ls_first (f := waitV s) (L := ords s) (fun o ho => waitV_nonneg (ords_ok h ho)) (ords s).length (Nat.le_refl _)
  rw [List.take_length] at q
  obtain ⟨a, j, hj, b, g⟩ := q.1 (ords_pos s)
  rw [b] at a e
  refine ⟨j, hj, e, ?_, ?_, fun k hk => ⟨?_, fun hkj => ?_⟩⟩
  · rw [e, rankV_yes (ords_ok h (getD_in hj))]
    have := less_at (s.A.length + s.B.length) s.A.length s.B.length rfl j hj
    exact congrArg Int.ofNat this
  · rw [e]; exact a
  · rw [e]; have := q.2 k hk; rw [b] at this; exact this
  · rw [e]; exact g k hkj

set_option maxRecDepth 100000 in
set_option maxHeartbeats 8000000 in
theorem walk_FnBest (a0 : Option Addr) (len0 cap0 : Nat) (z0 : List Int) (w : World) (w0 : IsRowK .u8 w a0 len0 cap0 z0) :
    Calls Try.prog 6 #[.slice a0 len0 cap0] w fun e w' => e = .returned (.bool true) ∧ Below w.heap.size w w' := by
  rcases Nat.lt_or_ge 1048576 len0 with hbig | hsm
  · have hb : (1048576 : Int) < (len0 : Int) := by omega
    go_enter Try.func6, Try.ntmps6
    go_wp2_with fail
    go_ret
    exact ⟨rfl, Below.refl _ _⟩
  have hb : (len0 : Int) ≤ 1048576 := by omega
  have DN := Lib.hid (drawSBest w0 hsm)
  clear w0
  go_enter Try.func6, Try.ntmps6
  go_upto_region 4 with (go_at_call 26; refine DN.out.mono ?_; rintro e wA ⟨v, s, rfl, os, ss, bA⟩; obtain ⟨a1, n1, c1, a2, n2, c2, rfl⟩ := os.form)
  have qB0 := Quad.new wA (.slice a1 n1 c1) (.slice a2 n2 c2) (.int .i64 s.run) (.int .i64 s.head) 25
  have bB := below_alloc wA (.cells #[.slice a1 n1 c1, .slice a2 n2 c2, .int .i64 s.run, .int .i64 s.head] 25)
  have sv := (os.sgV (by have := ss.la; omega) (by have := ss.lb; omega)).below bB
  obtain ⟨wB, hwB⟩ : ∃ X, X = wA.alloc (.cells #[.slice a1 n1 c1, .slice a2 n2 c2, .int .i64 s.run, .int .i64 s.head] 25) := ⟨_, rfl⟩
  have HWB := Lib.hid hwB.symm
  rw [← hwB] at qB0 bB sv ⊢
  have BB := Lib.hid (bA.trans (bB.mono bA.size))
  have QB := Lib.hid qB0
  have IS := Lib.hid (fun (X : World) (b : Below wB.heap.size wB X) => implBest (sv.below b))
  have SS := Lib.hid (fun (X : World) (b : Below wB.heap.size wB X) => specBest (sv.below b))
  have IM := Lib.hid (fun (X : World) (b : Below wB.heap.size wB X) => implMany (sv.below b))
  have IN := Lib.hid (fun (X : World) (b : Below wB.heap.size wB X) (k : Nat) => implNth (rk := (k : Int)) (sv.below b))
  have IW := Lib.hid (fun (X : World) (b : Below wB.heap.size wB X) (o : ByteArray) (ho : o.size ≤ 12) => implWait (S := o) (sv.below b) (by omega))
  have IR := Lib.hid (fun (X : World) (b : Below wB.heap.size wB X) (o : ByteArray) (ho : o.size ≤ 12) => implRank (S := o) (sv.below b) (by omega))
  obtain ⟨O, hO⟩ : ∃ m, m = bestV s := ⟨_, rfl⟩
  obtain ⟨g, hg⟩ : ∃ m, m = sgB s := ⟨_, rfl⟩
  have HMS := Lib.hid hO
  have HG := Lib.hid hg.symm
  rw [← hO, ← hg] at IS SS
  obtain ⟨run, hrun⟩ : ∃ x, x = s.run := ⟨_, rfl⟩
  obtain ⟨hd, hhd⟩ : ∃ x, x = s.head := ⟨_, rfl⟩
  rw [← hrun, ← hhd] at QB IS SS IM IN IW IR
  have k0 := QB.out.cell0
  have k1 := QB.out.cell1
  have k2 := QB.out.cell2
  have k3 := QB.out.cell3
  clear hO hg hwB qB0 bB sv os ss bA hrun hhd
  go_upto_region 5 with (go_at_call 20; refine (IS.out _ (below_self _)).mono ?_; rintro e wC ⟨rfl, bC⟩)
  have l0 := (QB.out.below bC).cell0
  have l1 := (QB.out.below bC).cell1
  have l2 := (QB.out.below bC).cell2
  have l3 := (QB.out.below bC).cell3
  have BC := Lib.hid bC
  clear k0 k1 k2 k3 bC
  go_upto_region 6 with (go_at_call 27; refine (SS.out _ BC.out).mono ?_; rintro e wD ⟨rfl, bD⟩)
  have BD := Lib.hid (BC.out.trans (bD.mono BC.out.size))
  clear l0 l1 l2 l3 bD
  have t1 : (O.toList != O.toList) = false := by simp
  have t2 : (O.toList == O.toList) = true := by simp
  cases g
  · go_wp2_with fail
    go_ret
    exact ⟨rfl, BB.out.trans (BD.out.mono BB.out.size)⟩
  obtain ⟨j, hj, hoj, hrk, hw0, hmin⟩ := best_facts HG.out
  rw [← HMS.out] at hoj hrk hw0 hmin
  have NL := ords_len s
  have MV := manyV_yes HG.out
  have hL12 : s.A.length + s.B.length ≤ 12 := by have := (sgB_of HG.out).lenA; have := (sgB_of HG.out).lenB; omega
  have hM := mny_le hL12
  have KN : ∀ k, k < (ords s).length → nthB s (k : Int) = true ∧ nthS s (k : Int) = (ords s).getD k ⟨#[]⟩ := by
    intro k hk
    have q : nthB s (k : Int) = true := by
      unfold nthB; rw [MV]; exact decide_eq_true (by omega)
    exact ⟨q, by rw [nthS_yes q, Int.toNat_natCast]; rfl⟩
  have KZ : ∀ k, k < (ords s).length → ((ords s).getD k ⟨#[]⟩).size ≤ 12 := fun k hk => ords_size HG.out (getD_in hk)
  have OZ : O.size ≤ 12 := by rw [hoj]; exact KZ j hj
  have IWO := fun (X : World) (b : Below wB.heap.size wB X) => IW.out X b O OZ
  have IRO := fun (X : World) (b : Below wB.heap.size wB X) => IR.out X b O OZ
  rw [hrk] at IRO
  rw [← NL] at hM MV
  rw [MV] at IM
  obtain ⟨m, hm⟩ : ∃ m, m = waitV s O := ⟨_, rfl⟩
  rw [← hm] at IWO hw0 hmin
  obtain ⟨N, hN⟩ : ∃ N, N = (ords s).length := ⟨_, rfl⟩
  rw [← hN] at IM hM hmin KN KZ hj
  obtain ⟨f, hf⟩ : ∃ f : Nat → Int, f = fun k => waitV s ((ords s).getD k ⟨#[]⟩) := ⟨_, rfl⟩
  have hfk : ∀ k, waitV s ((ords s).getD k ⟨#[]⟩) = f k := fun k => by rw [hf]
  simp only [hfk] at hmin
  have HF := Lib.hid hfk
  have KN := Lib.hid KN
  have KZ := Lib.hid KZ
  have HN := Lib.hid (And.intro hM hj)
  have HMIN := Lib.hid hmin
  have IWO := Lib.hid IWO
  have IRO := Lib.hid IRO
  have HW0 := Lib.hid hw0
  have QD := Lib.hid (QB.out.below BD.out)
  have l0 := QD.out.cell0
  have l1 := QD.out.cell1
  have l2 := QD.out.cell2
  have l3 := QD.out.cell3
  clear MV NL hL12 hM hN hf hfk hmin hj hoj hrk hw0 hm OZ
  go_wp2_with (first
    | (go_at_call 28; refine (IM.out _ BD.out).mono ?_; rintro e wE ⟨rfl, bE⟩; have cE := BD.out.trans (bE.mono BD.out.size); have m0 := (QB.out.below cE).cell0; have m1 := (QB.out.below cE).cell1; have m2 := (QB.out.below cE).cell2; have m3 := (QB.out.below cE).cell3; clear l0 l1 l2 l3 bE)
    | (go_at_call 18; refine (IWO.out _ cE).mono ?_; rintro e wF ⟨rfl, bF⟩; have cF := cE.trans (bF.mono cE.size); have n0 := (QB.out.below cF).cell0; have n1 := (QB.out.below cF).cell1; have n2 := (QB.out.below cF).cell2; have n3 := (QB.out.below cF).cell3; clear m0 m1 m2 m3 bF cE)
    | (go_at_call 29; refine (IRO.out _ cF).mono ?_; rintro e wG ⟨rfl, bG⟩; have BE := Lib.hid (cF.trans (bG.mono cF.size)); clear n0 n1 n2 n3 bG cF))
  go_loopw [11] (fun i wr => ∃ k : Nat, k ≤ N ∧ i = .int .i64 k ∧ Hid (Below wB.heap.size wB wr)) (fun i _ => N - (intOf i).toNat)
  case atStart => exact ⟨0, Nat.zero_le _, rfl, BE⟩
  case round =>
    obtain ⟨k, hk, rfl, HB⟩ := hrel
    have hNm := HN.out.1
    have hjN := HN.out.2
    rcases Nat.lt_or_ge k N with hlt | hge
    · have INk := IN.out _ HB.out k
      rw [(KN.out k hlt).1, (KN.out k hlt).2] at INk
      have hz := KZ.out k hlt
      have hfk := HF.out k
      obtain ⟨x, hx⟩ : ∃ x, x = (ords s).getD k ⟨#[]⟩ := ⟨_, rfl⟩
      rw [← hx] at INk hz hfk
      have IEk := fun (X : World) (b : Below wB.heap.size wB X) => IW.out X b x hz
      rw [hfk] at IEk
      have hmin := HMIN.out k hlt
      obtain ⟨fk, hfk2⟩ : ∃ z, z = f k := ⟨_, rfl⟩
      rw [← hfk2] at IEk hmin
      have INk := Lib.hid INk
      have IEk := Lib.hid IEk
      have e1 : decide (fk < m) = false := decide_eq_false (by omega)
      have hki : (k : Int) < (N : Int) := by omega
      have hkm : (k : Int) ≤ 4096 := by omega
      have HK := Lib.hid hlt
      have l0 := (QB.out.below HB.out).cell0
      have l1 := (QB.out.below HB.out).cell1
      have l2 := (QB.out.below HB.out).cell2
      have l3 := (QB.out.below HB.out).cell3
      obtain ⟨hm1, hm2⟩ := hmin
      by_cases heq : fk = m
      · have e3 : decide ((k : Int) < (j : Int)) = false := decide_eq_false (fun q => by have := hm2 (by omega); omega)
        have e4 : decide (k < j) = false := decide_eq_false (fun q => by have := hm2 q; omega)
        subst heq
        clear hx hfk hfk2 hz hlt hk hNm hjN hm1 hm2
        go_wp2_with (first
          | (go_at_call 30; refine INk.out.mono ?_; rintro e wH ⟨rfl, bF⟩; have cF := HB.out.trans (bF.mono HB.out.size); have m0 := (QB.out.below cF).cell0; have m1 := (QB.out.below cF).cell1; have m2 := (QB.out.below cF).cell2; have m3 := (QB.out.below cF).cell3; clear l0 l1 l2 l3 bF)
          | (go_at_call 18; refine (IEk.out _ cF).mono ?_; rintro e wK ⟨rfl, bG⟩; have BG := Lib.hid (cF.trans (bG.mono cF.size)); clear m0 m1 m2 m3 bG cF))
        go_roundw
        case rel => exact ⟨k + 1, by have := HK.out; omega, by go_num, BG⟩
        case measure => have := HK.out; simp [intOf]; omega
      · have e2 : (fk == m) = false := by simp [heq]
        clear hx hfk hfk2 hz hlt hk hNm hjN hm1 hm2 heq
        go_wp2_with (first
          | (go_at_call 30; refine INk.out.mono ?_; rintro e wH ⟨rfl, bF⟩; have cF := HB.out.trans (bF.mono HB.out.size); have m0 := (QB.out.below cF).cell0; have m1 := (QB.out.below cF).cell1; have m2 := (QB.out.below cF).cell2; have m3 := (QB.out.below cF).cell3; clear l0 l1 l2 l3 bF)
          | (go_at_call 18; refine (IEk.out _ cF).mono ?_; rintro e wK ⟨rfl, bG⟩; have BG := Lib.hid (cF.trans (bG.mono cF.size)); clear m0 m1 m2 m3 bG cF))
        go_roundw
        case rel => exact ⟨k + 1, by have := HK.out; omega, by go_num, BG⟩
        case measure => have := HK.out; simp [intOf]; omega
    · obtain rfl : k = N := by omega
      have hff : decide ((k : Int) < (k : Int)) = false := decide_eq_false (by omega)
      have hw0 := HW0.out
      have BZ := Lib.hid (BB.out.trans (HB.out.mono BB.out.size))
      clear hk hge hNm hjN HB
      go_wp2_with fail
      go_ret
      exact ⟨rfl, BZ.out⟩

end Go.Proofs.Ytchnaceihmepkaa

namespace Go.Proofs.Ytchnaceihmepkaa.fnBest
open Go.ChangeShapes Go.WideShapes Go.ChangeAt Go.RowKit
open Go.ChangeMaps (open_string shut_string)
set_option linter.unusedVariables false

theorem own : ownKnob Try.prog.godebug = none := by kernel_rfl
theorem laidOut : laidOutB Try.prog = true := by kernel_rfl

set_option maxRecDepth 100000 in
theorem lifted (os : Os) (started : os.Started) (H : Type) (enc : TypeId × Value → H) :
    ReturnsInHanded {} Try.checked os 6 .any (Rows.fnBestSpec.pre6 enc Try.prog Try.f6 Rows.fnBestRow.domain false) (Rows.fnBestSpec.post enc Try.prog Try.f6 false true false false) := by
  refine returnsInHanded_of_change (C := Try.checked) own started (by kernel_rfl) Try.func6
    (ChangeSpec.witness6 (enc := enc) (C := Try.checked) false ⟨#[], #[.slice none 0 0], []⟩ 8 (by kernel_rfl) (by kernel_rfl) (by kernel_rfl) (by kernel_rfl)) ?_
  intro W base args ds gs before hval0 hW hcnd _
  have hval : ∀ (j : Nat) t v, Try.f6.params[j]? = some t → args[j]? = some v → Value.okWide Try.prog W .any base t v := hval0
  have hW' := hW
  obtain ⟨p, q, hA0, hV, rfl, hfz, hnd⟩ := hW
  have hA : DataW.TrodAll enc Try.prog W 0 (fun _ => true) true Try.f6.params.toList args.toList ds p := hA0
  rw [Try.params6] at hA hval
  obtain ⟨v0, vs0, d0, ds0, p0, q0, hargs, rfl, rfl, h0, r0⟩ := trodAll_cons hA
  obtain ⟨rfl, rfl, rfl⟩ := trodAll_nil r0
  obtain rfl : args = #[v0] := by cases args; simp_all
  obtain ⟨rfl, rfl⟩ := trodVars_none hV
  obtain ⟨a0, len0, cap0, rfl⟩ := okWide_slice Try.underlying22 (hval 0 22 v0 rfl rfl)
  have k0 := h0
  have lt0 : ∀ x ∈ p0, x.block < W.heap.size := by obtain ⟨m, hm⟩ := k0; exact DataW.trod_lt m _ _ _ hm
  obtain ⟨z0, w0⟩ : ∃ zs, IsRowK .u8 W a0 len0 cap0 zs := by
    obtain ⟨fuel, hf⟩ := h0
    rcases open_ints Try.underlying22 Try.underlying5 (by kernel_rfl) hf with ⟨hcs, _⟩ | ⟨x, l, c, zs, hcs, _, hl, hm, hz, _, hcell, hwz⟩
    · simp [Value.cells] at hcs
      obtain ⟨rfl, rfl, rfl⟩ := hcs
      exact ⟨[], .inl ⟨rfl, rfl, rfl, rfl⟩⟩
    · simp [Value.cells] at hcs
      obtain ⟨rfl, rfl, rfl⟩ := hcs
      exact ⟨zs, .inr ⟨_, rfl, hl, hm, by simpa using hz, hcell, hwz⟩⟩
  clear hA0 hval0
  refine (walk_FnBest a0 len0 cap0 z0 W w0).mono fun e W' ⟨he, bel⟩ => ?_
  subst he
  exact ⟨_, rfl, _, _, _, [], _, [], hW', trodAll_mk1 (shut_bool Try.underlying4 _), (trodAll_cons_mk (Below.trod laidOut (by kernel_rfl) (of_decide_eq_true (by kernel_rfl)) k0 bel lt0) trodAll_mk0), rfl, bel.frame _, fun h => by cases h⟩

theorem closed : joinedFacts Try.checked.prog 6 Try.f6 Rows.fnBestSpec Rows.fnBestRow = true := by
  unfold joinedFacts
  simp only [Bool.and_eq_true]
  repeat' (refine And.intro ?_ ?_)
  all_goals first
    | with_reducible exact may_enter
    | (rw [lifts_final]; kernel_rfl)
    | (rw [make_is]; kernel_rfl)
    | kernel_rfl

theorem over : Rows.fnBestRow.holds Try.pinned (OpenSpec.ofChange Rows.fnBestSpec) :=
  OpenClaim.holds_of_wide 6 Try.f6 rfl rfl rfl rfl rfl rfl rfl ⟨rfl, rfl, rfl, rfl, rfl⟩ rfl rfl rfl rfl rfl (by kernel_rfl) Try.func6 closed
    (of_decide_eq_true (by kernel_rfl)) (by unfold Func.isWrapper; first | (rw [if_pos (by decide +kernel)]; kernel_rfl) | (rw [if_neg (by decide +kernel)]; exact ⟨rfl, rfl⟩))
    (fun os started H enc _ => lifted os started H enc)

theorem proved : Rows.FnBestSaid := over
#print axioms proved
end Go.Proofs.Ytchnaceihmepkaa.fnBest
