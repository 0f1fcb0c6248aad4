/-
  For every input the law 'FnSoon' returns true, and each of its arguments reads behind the call as it read before. Conditions: none beyond those of the row.
-/
import Derived.Test.YtchnaceihmepkaaRows
import Derived.WalkKit
import Derived.ProofKit
import Derived.OpenShut
import Derived.ShutString
import Derived.ChangeOld
import Derived.Below
import Derived.Deep.Matrix
import Derived.Test.YtchnaceihmepkaaIo
import Derived.Test.YtchnaceihmepkaaDrGs
import Derived.Test.YtchnaceihmepkaaSgO
import Derived.Deep.RegionHeld3
namespace Go.Proofs.Ytchnaceihmepkaa
open Go.RowKit

theorem ls_min {f : ByteArray → Int} {L : List ByteArray} (hn : ∀ o ∈ L, 0 ≤ f o) : ∀ k, k ≤ L.length → (0 < k → 0 ≤ (lsOf f (L.take k)).2 ∧ ∃ j, j < k ∧ f (L.getD j ⟨#[]⟩) = (lsOf f (L.take k)).2) ∧ ∀ j, j < k → (lsOf f (L.take k)).2 ≤ f (L.getD j ⟨#[]⟩) := by
  intro k
  induction k with
  | zero => intro _; exact ⟨fun h => absurd h (Nat.lt_irrefl 0), fun j h => absurd h (Nat.not_lt_zero j)⟩
  | succ k ih =>
    intro hk
    obtain ⟨h1, h2⟩ := ih (by omega)
    have h0 := hn _ (getD_in (k := k) (l := L) (by omega))
    rw [take_next' L (by omega), lsOf_add]
    unfold lsStep
    by_cases q : (lsOf f (L.take k)).2 < 0 ∨ f (L.getD k ⟨#[]⟩) < (lsOf f (L.take k)).2
    · rw [if_pos q]
      refine ⟨fun _ => ⟨h0, k, by omega, rfl⟩, fun j hj => ?_⟩
      show f (L.getD k ⟨#[]⟩) ≤ f (L.getD j ⟨#[]⟩)
      rcases Nat.lt_or_ge j k with hjk | hjk
      · have a := h2 j hjk
        have b := (h1 (by omega)).1
        omega
      · obtain rfl : j = k := by omega
        exact Int.le_refl _
    · rw [if_neg q]
      have hk0 : 0 < k := by
        rcases Nat.eq_zero_or_pos k with e | e
        · subst e; exact absurd (Or.inl (by rw [List.take_zero]; exact (by decide : (-1 : Int) < 0))) q
        · exact e
      obtain ⟨b, j, hj, e⟩ := h1 hk0
      refine ⟨fun _ => ⟨b, j, by omega, e⟩, fun i hi => ?_⟩
      rcases Nat.lt_or_ge i k with hik | hik
      · exact h2 i hik
      · obtain rfl : i = k := by omega
        omega
theorem soon_facts {s : Sg} (h : sgB s = true) : 0 ≤ soonV s ∧ (∀ k, k < (ords s).length → soonV s ≤ endV s ((ords s).getD k ⟨#[]⟩)) ∧ ∃ k, k < (ords s).length ∧ endV s ((ords s).getD k ⟨#[]⟩) = soonV s := by
  have e : soonV s = (lsOf (endV s) (ords s)).2 := by simp [soonV, h]
  have q := ls_min (f := endV s) (L := ords s) (fun o ho => endV_nonneg (ords_ok h ho)) (ords s).length (Nat.le_refl _)
  rw [List.take_length, ← e] at q
  exact ⟨(q.1 (ords_pos s)).1, q.2, (q.1 (ords_pos s)).2⟩
/-- Whether one of the first ends so. -/
def fnd (f : Nat → Int) (m : Int) : Nat → Bool
  | 0 => false
  | k + 1 => fnd f m k || f k == m
theorem fnd_at {f : Nat → Int} {m : Int} {n j : Nat} (hj : j < n) (e : f j = m) : fnd f m n = true := by
  induction n with
  | zero => omega
  | succ n ih =>
    rcases Nat.lt_or_ge j n with h | h
    · simp only [fnd]; rw [ih h]; rfl
    · obtain rfl : j = n := by omega
      simp [fnd, e]

set_option maxRecDepth 100000 in
set_option maxHeartbeats 8000000 in
theorem walk_FnSoon (a0 : Option Addr) (len0 cap0 : Nat) (z0 : List Int) (w : World) (w0 : IsRowK .u8 w a0 len0 cap0 z0) :
    Calls Try.prog 7 #[.slice a0 len0 cap0] w fun e w' => e = .returned (.bool true) ∧ Below w.heap.size w w' := by
  rcases Nat.lt_or_ge 1048576 len0 with hbig | hsm
  · have hb : (1048576 : Int) < (len0 : Int) := by omega
    go_enter Try.func7, Try.ntmps7
    go_wp2_with fail
    go_ret
    exact ⟨rfl, Below.refl _ _⟩
  have hb : (len0 : Int) ≤ 1048576 := by omega
  have DN := Lib.hid (drawSSoon w0 hsm)
  clear w0
  go_enter Try.func7, Try.ntmps7
  go_upto_region 4 with (go_at_call 31; refine DN.out.mono ?_; rintro e wA ⟨v, s, rfl, os, ss, bA⟩; obtain ⟨a1, n1, c1, a2, n2, c2, rfl⟩ := os.form)
  have qB0 := Quad.new wA (.slice a1 n1 c1) (.slice a2 n2 c2) (.int .i64 s.run) (.int .i64 s.head) 25
  have bB := below_alloc wA (.cells #[.slice a1 n1 c1, .slice a2 n2 c2, .int .i64 s.run, .int .i64 s.head] 25)
  have sv := (os.sgV (by have := ss.la; omega) (by have := ss.lb; omega)).below bB
  obtain ⟨wB, hwB⟩ : ∃ X, X = wA.alloc (.cells #[.slice a1 n1 c1, .slice a2 n2 c2, .int .i64 s.run, .int .i64 s.head] 25) := ⟨_, rfl⟩
  have HWB := Lib.hid hwB.symm
  rw [← hwB] at qB0 bB sv ⊢
  have BB := Lib.hid (bA.trans (bB.mono bA.size))
  have QB := Lib.hid qB0
  have IS := Lib.hid (fun (X : World) (b : Below wB.heap.size wB X) => implSoon (sv.below b))
  have SS := Lib.hid (fun (X : World) (b : Below wB.heap.size wB X) => specSoon (sv.below b))
  have IM := Lib.hid (fun (X : World) (b : Below wB.heap.size wB X) => implMany (sv.below b))
  have IN := Lib.hid (fun (X : World) (b : Below wB.heap.size wB X) (k : Nat) => implNth (rk := (k : Int)) (sv.below b))
  have IE := Lib.hid (fun (X : World) (b : Below wB.heap.size wB X) (o : ByteArray) (ho : o.size ≤ 12) => implEnd (S := o) (sv.below b) (by omega))
  obtain ⟨m, hm⟩ : ∃ m, m = soonV s := ⟨_, rfl⟩
  have L1 := Lib.hid (show n1 = s.A.length by obtain ⟨x, y, e, i1, i2⟩ := sv; simp only [Value.agg.injEq, Array.mk.injEq, List.cons.injEq, and_true] at e; obtain ⟨rfl, rfl⟩ := e; exact slice_len i1)
  have L2 := Lib.hid (show n2 = s.B.length by obtain ⟨x, y, e, i1, i2⟩ := sv; simp only [Value.agg.injEq, Array.mk.injEq, List.cons.injEq, and_true] at e; obtain ⟨rfl, rfl⟩ := e; exact slice_len i2)
  have HMS := Lib.hid hm
  rw [← hm] at IS SS
  obtain ⟨run, hrun⟩ : ∃ x, x = s.run := ⟨_, rfl⟩
  obtain ⟨hd, hhd⟩ : ∃ x, x = s.head := ⟨_, rfl⟩
  rw [← hrun, ← hhd] at QB IS SS IM IN IE
  have k0 := QB.out.cell0
  have k1 := QB.out.cell1
  have k2 := QB.out.cell2
  have k3 := QB.out.cell3
  clear hm hwB qB0 bB sv os ss bA hrun hhd
  go_upto_region 5 with (go_at_call 23; refine (IS.out _ (below_self _)).mono ?_; rintro e wC ⟨rfl, bC⟩)
  have l0 := (QB.out.below bC).cell0
  have l1 := (QB.out.below bC).cell1
  have l2 := (QB.out.below bC).cell2
  have l3 := (QB.out.below bC).cell3
  have BC := Lib.hid bC
  clear k0 k1 k2 k3 bC
  go_upto_region 6 with (go_at_call 32; refine (SS.out _ BC.out).mono ?_; rintro e wD ⟨rfl, bD⟩)
  have BD := Lib.hid (BC.out.trans (bD.mono BC.out.size))
  clear l0 l1 l2 l3 bD
  rcases Int.lt_or_le m 0 with hneg | hpos
  · have t0 : decide (m < 0) = true := decide_eq_true hneg
    have t1 : (m != m) = false := by simp
    have t2 : (m == m) = true := by simp
    clear hneg
    go_wp2_with fail
    go_ret
    exact ⟨rfl, BB.out.trans (BD.out.mono BB.out.size)⟩
  have t0 : decide (m < 0) = false := by simpa using hpos
  have t1 : (m != m) = false := by simp
  have HSG := Lib.hid (show sgB s = true by
    cases hs : sgB s
    · have : soonV s = -1 := by simp [soonV, hs]
      rw [HMS.out, this] at hpos; omega
    · rfl)
  have SF := soon_facts HSG.out
  rw [← HMS.out] at SF
  obtain ⟨-, SF1, SF2⟩ := SF
  have MV := manyV_yes HSG.out
  have NL := ords_len s
  have hL12 : s.A.length + s.B.length ≤ 12 := by have := (sgB_of HSG.out).lenA; have := (sgB_of HSG.out).lenB; omega
  have hM := mny_le hL12
  have KN : ∀ k, k < (ords s).length → nthB s (k : Int) = true ∧ nthS s (k : Int) = (ords s).getD k ⟨#[]⟩ := by
    intro k hk
    have q : nthB s (k : Int) = true := by
      unfold nthB; rw [MV]; exact decide_eq_true (by omega)
    exact ⟨q, by rw [nthS_yes q, Int.toNat_natCast]; rfl⟩
  have KZ : ∀ k, k < (ords s).length → ((ords s).getD k ⟨#[]⟩).size ≤ 12 := fun k hk => ords_size HSG.out (getD_in hk)
  have M1 : n1 = 0 ∨ n2 = 0 → (ords s).length = 1 := by
    rw [L1.out, L2.out, NL]
    rintro (h | h)
    · rw [h]; exact mny_0d _
    · rw [h]; exact mny_u0 _
  rw [← NL] at hM MV
  rw [MV] at IM
  obtain ⟨N, hN⟩ : ∃ N, N = (ords s).length := ⟨_, rfl⟩
  rw [← hN] at IM hM SF1 SF2 KN KZ M1
  obtain ⟨f, hf⟩ : ∃ f : Nat → Int, f = fun k => endV s ((ords s).getD k ⟨#[]⟩) := ⟨_, rfl⟩
  have hfk : ∀ k, endV s ((ords s).getD k ⟨#[]⟩) = f k := fun k => by rw [hf]
  simp only [hfk] at SF1 SF2
  have SF1 := Lib.hid SF1
  have SF2 := Lib.hid SF2
  have HF := Lib.hid hfk
  have KN := Lib.hid KN
  have KZ := Lib.hid KZ
  have M1 := Lib.hid M1
  have HN := Lib.hid hM
  have QD := Lib.hid (QB.out.below BD.out)
  have l0 := QD.out.cell0
  have l1 := QD.out.cell1
  have l2 := QD.out.cell2
  have l3 := QD.out.cell3
  clear MV NL hL12 hM hN hf hfk hpos
  go_wp2_with (go_at_call 28; refine (IM.out _ BD.out).mono ?_; rintro e wE ⟨rfl, bE⟩)
  have BE := Lib.hid (BD.out.trans (bE.mono BD.out.size))
  clear bE l0 l1 l2 l3 t0 t1
  go_loopw [7, 8] (fun t i wr => ∃ k : Nat, k ≤ N ∧ i = .int .i64 k ∧ t = .bool (fnd f m k) ∧ Hid (Below wB.heap.size wB wr)) (fun _ i _ => N - (intOf i).toNat)
  case atStart => exact ⟨0, Nat.zero_le _, rfl, rfl, BE⟩
  case round =>
    obtain ⟨k, hk, rfl, rfl, HB⟩ := hrel
    have hNm := HN.out
    rcases Nat.lt_or_ge k N with hlt | hge
    · have INk := IN.out _ HB.out k
      rw [(KN.out k hlt).1, (KN.out k hlt).2] at INk
      have hz := KZ.out k hlt
      have hfk := HF.out k
      obtain ⟨x, hx⟩ : ∃ x, x = (ords s).getD k ⟨#[]⟩ := ⟨_, rfl⟩
      rw [← hx] at INk hz hfk
      have IEk := fun (X : World) (b : Below wB.heap.size wB X) => IE.out X b x hz
      rw [hfk] at IEk
      have hmin := SF1.out k hlt
      have FS : fnd f m (k + 1) = (fnd f m k || f k == m) := rfl
      obtain ⟨fk, hfk2⟩ : ∃ z, z = f k := ⟨_, rfl⟩
      rw [← hfk2] at IEk hmin FS
      obtain ⟨t, ht⟩ : ∃ z, z = fnd f m k := ⟨_, rfl⟩
      rw [← ht] at FS ⊢
      have FS := Lib.hid FS
      have INk := Lib.hid INk
      have IEk := Lib.hid IEk
      have e1 : decide (fk < m) = false := decide_eq_false (by omega)
      have hki : (k : Int) < (N : Int) := by omega
      have hkm : (k : Int) ≤ 4096 := by omega
      have HK := Lib.hid hlt
      have l0 := (QB.out.below HB.out).cell0
      have l1 := (QB.out.below HB.out).cell1
      have l2 := (QB.out.below HB.out).cell2
      have l3 := (QB.out.below HB.out).cell3
      clear hx hfk hfk2 hz hmin ht hlt hk hNm
      cases t
      · go_wp2_with (first
          | (go_at_call 30; refine INk.out.mono ?_; rintro e wF ⟨rfl, bF⟩; have cF := HB.out.trans (bF.mono HB.out.size); have m0 := (QB.out.below cF).cell0; have m1 := (QB.out.below cF).cell1; have m2 := (QB.out.below cF).cell2; have m3 := (QB.out.below cF).cell3; clear l0 l1 l2 l3 bF)
          | (go_at_call 22; refine (IEk.out _ cF).mono ?_; rintro e wG ⟨rfl, bG⟩; have BG := Lib.hid (cF.trans (bG.mono cF.size)); clear m0 m1 m2 m3 bG cF))
        go_roundw
        case rel => exact ⟨k + 1, by have := HK.out; omega, by go_num, by rw [FS.out]; rfl, BG⟩
        case measure => have := HK.out; simp [intOf]; omega
      · go_wp2_with (first
          | (go_at_call 30; refine INk.out.mono ?_; rintro e wF ⟨rfl, bF⟩; have cF := HB.out.trans (bF.mono HB.out.size); have m0 := (QB.out.below cF).cell0; have m1 := (QB.out.below cF).cell1; have m2 := (QB.out.below cF).cell2; have m3 := (QB.out.below cF).cell3; clear l0 l1 l2 l3 bF)
          | (go_at_call 22; refine (IEk.out _ cF).mono ?_; rintro e wG ⟨rfl, bG⟩; have BG := Lib.hid (cF.trans (bG.mono cF.size)); clear m0 m1 m2 m3 bG cF))
        go_roundw
        case rel => exact ⟨k + 1, by have := HK.out; omega, by go_num, by rw [FS.out]; rfl, BG⟩
        case measure => have := HK.out; simp [intOf]; omega
    · obtain rfl : k = N := by omega
      have hT : fnd f m k = true := by obtain ⟨j, hj, e⟩ := SF2.out; exact fnd_at hj e
      have m0 := (QB.out.below HB.out).cell0
      have m1 := (QB.out.below HB.out).cell1
      have hff : decide ((k : Int) < (k : Int)) = false := decide_eq_false (by omega)
      rw [hT]
      have BZ := Lib.hid (BB.out.trans (HB.out.mono BB.out.size))
      have M1 := M1.out
      clear hT hk hge hNm HB
      rcases Nat.eq_zero_or_pos n1 with h1 | h1
      · have e1 : decide ((0 : Int) < (n1 : Int)) = false := decide_eq_false (by omega)
        have e2 : decide (0 < n1) = false := decide_eq_false (by omega)
        obtain rfl := M1 (.inl h1)
        clear h1
        go_wp2_with fail
        go_ret
        exact ⟨rfl, BZ.out⟩
      have e1 : decide ((0 : Int) < (n1 : Int)) = true := decide_eq_true (by omega)
      have e2 : decide (0 < n1) = true := decide_eq_true (by omega)
      rcases Nat.eq_zero_or_pos n2 with h2 | h2
      · have e3 : decide ((0 : Int) < (n2 : Int)) = false := decide_eq_false (by omega)
        have e4 : decide (0 < n2) = false := decide_eq_false (by omega)
        obtain rfl := M1 (.inr h2)
        clear h1 h2
        go_wp2_with fail
        go_ret
        exact ⟨rfl, BZ.out⟩
      have e3 : decide ((0 : Int) < (n2 : Int)) = true := decide_eq_true (by omega)
      have e4 : decide (0 < n2) = true := decide_eq_true (by omega)
      clear h1 h2 M1
      go_wp2_with fail
      go_ret
      exact ⟨rfl, BZ.out⟩

end Go.Proofs.Ytchnaceihmepkaa

namespace Go.Proofs.Ytchnaceihmepkaa.fnSoon
open Go.ChangeShapes Go.WideShapes Go.ChangeAt Go.RowKit
open Go.ChangeMaps (open_string shut_string)
set_option linter.unusedVariables false

theorem own : ownKnob Try.prog.godebug = none := by kernel_rfl
theorem laidOut : laidOutB Try.prog = true := by kernel_rfl

set_option maxRecDepth 100000 in
theorem lifted (os : Os) (started : os.Started) (H : Type) (enc : TypeId × Value → H) :
    ReturnsInHanded {} Try.checked os 7 .any (Rows.fnSoonSpec.pre6 enc Try.prog Try.f7 Rows.fnSoonRow.domain false) (Rows.fnSoonSpec.post enc Try.prog Try.f7 false true false false) := by
  refine returnsInHanded_of_change (C := Try.checked) own started (by kernel_rfl) Try.func7
    (ChangeSpec.witness6 (enc := enc) (C := Try.checked) false ⟨#[], #[.slice none 0 0], []⟩ 8 (by kernel_rfl) (by kernel_rfl) (by kernel_rfl) (by kernel_rfl)) ?_
  intro W base args ds gs before hval0 hW hcnd _
  have hval : ∀ (j : Nat) t v, Try.f7.params[j]? = some t → args[j]? = some v → Value.okWide Try.prog W .any base t v := hval0
  have hW' := hW
  obtain ⟨p, q, hA0, hV, rfl, hfz, hnd⟩ := hW
  have hA : DataW.TrodAll enc Try.prog W 0 (fun _ => true) true Try.f7.params.toList args.toList ds p := hA0
  rw [Try.params7] at hA hval
  obtain ⟨v0, vs0, d0, ds0, p0, q0, hargs, rfl, rfl, h0, r0⟩ := trodAll_cons hA
  obtain ⟨rfl, rfl, rfl⟩ := trodAll_nil r0
  obtain rfl : args = #[v0] := by cases args; simp_all
  obtain ⟨rfl, rfl⟩ := trodVars_none hV
  obtain ⟨a0, len0, cap0, rfl⟩ := okWide_slice Try.underlying22 (hval 0 22 v0 rfl rfl)
  have k0 := h0
  have lt0 : ∀ x ∈ p0, x.block < W.heap.size := by obtain ⟨m, hm⟩ := k0; exact DataW.trod_lt m _ _ _ hm
  obtain ⟨z0, w0⟩ : ∃ zs, IsRowK .u8 W a0 len0 cap0 zs := by
    obtain ⟨fuel, hf⟩ := h0
    rcases open_ints Try.underlying22 Try.underlying5 (by kernel_rfl) hf with ⟨hcs, _⟩ | ⟨x, l, c, zs, hcs, _, hl, hm, hz, _, hcell, hwz⟩
    · simp [Value.cells] at hcs
      obtain ⟨rfl, rfl, rfl⟩ := hcs
      exact ⟨[], .inl ⟨rfl, rfl, rfl, rfl⟩⟩
    · simp [Value.cells] at hcs
      obtain ⟨rfl, rfl, rfl⟩ := hcs
      exact ⟨zs, .inr ⟨_, rfl, hl, hm, by simpa using hz, hcell, hwz⟩⟩
  clear hA0 hval0
  refine (walk_FnSoon a0 len0 cap0 z0 W w0).mono fun e W' ⟨he, bel⟩ => ?_
  subst he
  exact ⟨_, rfl, _, _, _, [], _, [], hW', trodAll_mk1 (shut_bool Try.underlying4 _), (trodAll_cons_mk (Below.trod laidOut (by kernel_rfl) (of_decide_eq_true (by kernel_rfl)) k0 bel lt0) trodAll_mk0), rfl, bel.frame _, fun h => by cases h⟩

theorem closed : joinedFacts Try.checked.prog 7 Try.f7 Rows.fnSoonSpec Rows.fnSoonRow = true := by
  unfold joinedFacts
  simp only [Bool.and_eq_true]
  repeat' (refine And.intro ?_ ?_)
  all_goals first
    | with_reducible exact may_enter
    | (rw [lifts_final]; kernel_rfl)
    | (rw [make_is]; kernel_rfl)
    | kernel_rfl

theorem over : Rows.fnSoonRow.holds Try.pinned (OpenSpec.ofChange Rows.fnSoonSpec) :=
  OpenClaim.holds_of_wide 7 Try.f7 rfl rfl rfl rfl rfl rfl rfl ⟨rfl, rfl, rfl, rfl, rfl⟩ rfl rfl rfl rfl rfl (by kernel_rfl) Try.func7 closed
    (of_decide_eq_true (by kernel_rfl)) (by unfold Func.isWrapper; first | (rw [if_pos (by decide +kernel)]; kernel_rfl) | (rw [if_neg (by decide +kernel)]; exact ⟨rfl, rfl⟩))
    (fun os started H enc _ => lifted os started H enc)

theorem proved : Rows.FnSoonSaid := over
#print axioms proved
end Go.Proofs.Ytchnaceihmepkaa.fnSoon
