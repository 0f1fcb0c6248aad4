/-
  For every input the law 'FnPathsOrder' returns true, and each of its arguments reads behind the call as it read before. Conditions: none beyond those of the row.
-/
import Derived.Test.YtedbfmmklmidjaaRows
import Derived.WalkKit
import Derived.ProofKit
import Derived.OpenShut
import Derived.ShutString
import Derived.ChangeOld
import Derived.Below
import Derived.Deep.Matrix
import Derived.Test.YtedbfmmklmidjaaIo
import Derived.Test.YtedbfmmklmidjaaDrawQ
import Derived.Test.YtedbfmmklmidjaaGapP
import Derived.Test.YtedbfmmklmidjaaHasI
import Derived.Lib.QuietBelow
import Derived.BigRegion
import Derived.BigQuiet
namespace Go.Proofs.Ytedbfmmklmidjaa
open Go.RowKit

open Go.Sort

theorem order_apart {n : Int} {ps : List (List Int × List Int)} {k i : Nat} (h : pathsB n ps = true) (hk : (k : Int) < n) (hi : i + 1 < ps.length) : outAt ps k ((orderOf ps k).getD i 0).toNat ≤ inAt ps k ((orderOf ps k).getD (i + 1) 0).toNat := by
  have hl := order_len ps k
  obtain ⟨x0, xl⟩ := order_get (ps := ps) (k := k) (m := i + 1) (by omega)
  obtain ⟨y0, yl⟩ := order_get (ps := ps) (k := k) (m := i) (by omega)
  obtain ⟨t1, t2⟩ := order_two (ps := ps) (k := k) (a := i) (b := i + 1) (by omega) (by omega)
  have ap := apart_at h xl yl (by omega) hk
  have b1 := sec_bounds h xl hk
  unfold inAt outAt at *
  omega

set_option maxRecDepth 100000 in
set_option maxHeartbeats 8000000 in
theorem walk_FnPathsOrder (a0 : Option Addr) (len0 cap0 : Nat) (z0 : List Int) (w : World) (w0 : IsRowK .u8 w a0 len0 cap0 z0) :
    Calls Try.prog 9 #[.slice a0 len0 cap0] w fun e w' => e = .returned (.bool true) ∧ Below w.heap.size w w' := by
  rcases Nat.lt_or_ge 1048576 len0 with hbig | hsm
  · have hb : (1048576 : Int) < (len0 : Int) := by omega
    go_enter Try.func9, Try.ntmps9
    go_wp2_with fail
    go_ret
    exact ⟨rfl, Below.refl _ _⟩
  have hb : (len0 : Int) ≤ 1048576 := by omega
  have DS := Lib.hid (drawOrder w0 hsm)
  clear w0
  go_enter Try.func9, Try.ntmps9
  go_wp2_with (go_at_call 46; refine DS.out.mono ?_)
  rintro e w1 ⟨n, b, c, vs, ps, k, rfl, hn1, hn4, hpl, hk0, hk1, lq, b1⟩
  have hpp := lq.paths (by omega)
  have GI := implOrder (n := (n : Int)) (k := k) hpp
  have GS := fun (X : World) (hX : Below w1.heap.size w1 X) => specPathsOrder (n := (n : Int)) (k := k) (hpp.below hX)
  obtain ⟨L, hL⟩ : ∃ L, L = ordV (n : Int) ps k := ⟨_, rfl⟩
  obtain ⟨t, ht⟩ : ∃ t, t = hasB (n : Int) ps k := ⟨_, rfl⟩
  have hl9 : L.length ≤ ps.length := by rw [hL]; exact ordV_length _ _ _
  rw [← hL, ← ht] at GI GS
  have GI := Lib.hid GI
  have GS := Lib.hid GS
  have HL := Lib.hid hL
  have HT := Lib.hid ht
  have HP := Lib.hid hpp
  have B1 := Lib.hid b1
  clear hpp lq DS hL ht b1
  go_wp2_with (go_at_call 47; refine GI.out.mono ?_)
  rintro e w2 ⟨v2, rfl, o2, b2⟩
  obtain ⟨a2, d2, rfl⟩ := own_slice2 o2
  have O2 := Lib.hid o2
  go_wp2_with (go_at_call 48; refine (GS.out _ b2).mono ?_)
  rintro e w3 ⟨v3, rfl, o3, b3⟩
  obtain ⟨a3, d3, rfl⟩ := own_slice2 o3
  have S2 := (O2.out.below b3).ints (by omega)
  have S3 := o3.ints (by omega)
  have SI := fun (X : World) (hX : Below w3.heap.size w3 X) => sameInts (S2.below hX) (S3.below hX)
  rw [decide_eq_true rfl] at SI
  have SI := Lib.hid SI
  have C3 := Lib.hid (b2.trans (b3.mono b2.size))
  have O2 := Lib.hid (O2.out.below b3)
  clear b2 b3 GI GS o2 o3 S2 S3
  go_wp2_with (go_at_call 42; refine (SI.out _ (Below.refl _ _)).mono ?_)
  rintro e w4 ⟨rfl, b4⟩
  have C4 := Lib.hid (C3.out.trans (b4.mono C3.out.size))
  have O4 := Lib.hid (O2.out.below b4)
  cases t
  · go_wp2_with (go_at_call 42; refine (SI.out _ b4).mono ?_)
    rintro e w5 ⟨rfl, b5⟩
    have C5 := Lib.hid (B1.out.trans ((C4.out.trans (b5.mono C4.out.size)).mono B1.out.size))
    clear b5
    go_wp2_with fail
    go_ret
    exact ⟨rfl, C5.out⟩
  have hhas : hasB (n : Int) ps k = true := HT.out.symm
  obtain ⟨hpb, hk0', hkn⟩ := hasB_is hhas
  obtain ⟨k, rfl⟩ : ∃ m : Nat, k = (m : Int) := ⟨k.toNat, by omega⟩
  have hLo : L = orderOf ps k := by rw [HL.out]; unfold ordV; rw [hhas, if_pos rfl, Int.toNat_natCast]
  have hlen : L.length = ps.length := by rw [hLo, order_len]
  have HH := Lib.hid (fun i (hi : i < L.length) => show (i : Int) ∈ L by rw [hLo]; exact ordTo_mem.2 ⟨i, by rw [← hlen]; exact hi, rfl⟩)
  have HG := Lib.hid (fun i (hi : i < L.length) => show 0 ≤ L.getD i 0 ∧ (L.getD i 0).toNat < ps.length by rw [hLo] at hi ⊢; exact order_get hi)
  have HS := Lib.hid (fun i (hi : i + 1 < L.length) => show outAt ps k (L.getD i 0).toNat ≤ inAt ps k (L.getD (i + 1) 0).toNat by
    rw [hLo]
    rw [hlen] at hi
    exact order_apart hpb hkn hi)
  have PB := Lib.hid hpb
  have HAT := Lib.hid (fun (i : Nat) (hi : i < ps.length) => paths_at HP.out hi)
  have O4I := Lib.hid (O4.out.ints (by omega))
  have hcap : L.length ≤ d2 := by
    rcases O4.out.2 with ⟨e, _⟩ | ⟨_, _, _, e, _, _, q, _⟩
    · simp only [Value.slice.injEq] at e; omega
    · simp only [Value.slice.injEq] at e; omega
  have hLe := Lib.hid hlen
  have hL8 : L.length ≤ 9 := by omega
  clear hhas hpb hLo hk0 hk1 hlen hl9
  go_wp2_with fail
  go_loopw [10] (fun iv wr => ∃ i : Nat, i ≤ L.length ∧ iv = .int .i64 i ∧ Below w4.heap.size w4 wr) (fun iv _ => L.length - (intOf iv).toNat)
  case atStart => exact ⟨0, by omega, rfl, Below.refl _ _⟩
  case round =>
    obtain ⟨i, hi, rfl, hbel⟩ := hrel
    by_cases hlt : i < L.length
    · have hli : (i : Int) < (L.length : Int) := by omega
      have HI := hasInt (O4I.out.below hbel) (i : Int)
      rw [decide_eq_true (HH.out i hlt)] at HI
      rcases O4.out.shape with ⟨_, e⟩ | ⟨g, cg, e, -, hg⟩
      · rw [e] at hlt; simp at hlt
      simp only [Value.slice.injEq, true_and] at e
      obtain ⟨rfl, -⟩ := e
      have hsz := hbel.size
      have HIq := Lib.hid (fun dd os => Calls.regrown_of (hasInt ((O4I.out.below hbel).below (below_regrown wr dd os)) (i : Int)))
      rw [decide_eq_true (HH.out i hlt)] at HIq
      have BB := Lib.hid hbel
      clear HI hbel
      by_cases hi0 : i = 0
      · subst hi0
        go_wp2_with fail
        refine wp_region_quiet_below (by kernel_rfl) (by kernel_rfl) ?_
        repeat (go_big_quiet_step (exact HIq.out _ _))
        refine wpQuiet_nil ?_
        intro _ hw'
        obtain ⟨⟨dq, osq⟩, hw''⟩ := hw'
        subst hw''
        have BF := Lib.hid (BB.out.trans ((below_regrown wr dq osq).mono hsz))
        go_wp2_with fail
        go_roundw
        case rel => exact ⟨1, by omega, by go_num, BF.out⟩
        case measure => simp [intOf]; omega
      · obtain ⟨j, hj⟩ : ∃ j, j + 1 = i := ⟨i - 1, by omega⟩
        obtain ⟨x0, xl⟩ := HG.out i hlt
        obtain ⟨y0, yl⟩ := HG.out j (by omega)
        have hle := HS.out j (by omega)
        rw [hj] at hle
        have cx := OwnI.readAt O4.out i hlt
        have cy := OwnI.readAt O4.out j (by omega)
        obtain ⟨X, hX⟩ : ∃ X : Nat, X = (L.getD i 0).toNat := ⟨_, rfl⟩
        obtain ⟨Y, hY⟩ : ∃ Y : Nat, Y = (L.getD j 0).toNat := ⟨_, rfl⟩
        have ex : L.getD i 0 = (X : Int) := by omega
        have ey : L.getD j 0 = (Y : Int) := by omega
        rw [ex] at cx
        rw [ey] at cy
        rw [← hX] at xl hle
        rw [← hY] at yl hle
        obtain ⟨_, o, e, hb1', hat⟩ := HAT.out X xl
        simp only [Option.some.injEq, Addr.mk.injEq, and_true] at e
        obtain ⟨rfl, rfl⟩ := e
        obtain ⟨b1, o1, k1, b2, o2, k2, c1, c2, -, hb1, hb2, d1, d2'⟩ := paths_cells hat PB.out xl hkn
        obtain ⟨b3, o3, k3, b4, o4, k4, c3, c4, -, hb3, hb4, d3, d4⟩ := paths_cells hat PB.out yl hkn
        obtain ⟨r1, r2, r3, r4, r5⟩ := sec_bounds PB.out xl hkn
        obtain ⟨u1, u2, u3, u4, u5⟩ := sec_bounds PB.out yl hkn
        have old : ∀ (q : Addr) (v : Value), q.block < w1.heap.size → w1.cell? q = some v → wr.cell? q = some v := fun q v hq hv => (BB.out.cell (Nat.lt_of_lt_of_le hq C4.out.size)).trans ((C4.out.cell hq).trans hv)
        have f1 := old _ _ hb1' c1
        have f2 := old _ _ hb1' c4
        simp only [Nat.zero_add] at f1 f2
        have f3 := old _ _ hb1 d1
        have f4 := old _ _ hb4 d4
        have f5 := (BB.out.cell (p := ⟨g, i, none⟩) hg).trans cx
        have f6 := (BB.out.cell (p := ⟨g, j, none⟩) hg).trans cy
        unfold inAt outAt at hle
        generalize (ps.getD X noPath).1.length = l1 at f1 r1
        generalize (ps.getD Y noPath).2.length = l2 at f2 u2
        generalize (ps.getD X noPath).1.getD k 0 = s at f3 hle
        generalize (ps.getD Y noPath).2.getD k 0 = t at f4 hle
        have hlt1 : decide (s < t) = false := decide_eq_false (by omega)
        have hXi : (X : Int) < (ps.length : Int) := by omega
        have hYi : (Y : Int) < (ps.length : Int) := by omega
        have hkl1 : (k : Int) < (l1 : Int) := by omega
        have hkl2 : (k : Int) < (l2 : Int) := by omega
        have hi1 : (0 : Int) < (i : Int) := by omega
        have hi3 : 0 < i := by omega
        have hi2 : decide (0 < i) = true := decide_eq_true hi3
        have hj2 : (j : Int) < (L.length : Int) := by omega
        have hwj : IntKind.i64.wrap ((i : Int) - 1) = (j : Int) := by rw [IntWalk.i64_in _ (by omega)]; omega
        have hwj' : wrap64 ((i : Int) - 1) = (j : Int) := (IntWalk.i64_left _).symm.trans hwj
        clear cx cy hX hY ex ey x0 y0 hat c1 c2 c3 c4 d1 d2' d3 d4 old hle r2 r3 r4 r5 u1 u3 u4 u5 hi0
        have z1 := fun d os => cell_regrown f1 d os
        have z2 := fun d os => cell_regrown f2 d os
        have z3 := fun d os => cell_regrown f3 d os
        have z4 := fun d os => cell_regrown f4 d os
        have z5 := fun d os => cell_regrown f5 d os
        have z6 := fun d os => cell_regrown f6 d os
        go_wp2_with fail
        refine wp_region_quiet_below (by kernel_rfl) (by kernel_rfl) ?_
        repeat (go_big_quiet_step (exact HIq.out _ _))
        refine wpQuiet_nil ?_
        intro _ hw'
        obtain ⟨⟨dq, osq⟩, hw''⟩ := hw'
        subst hw''
        have BF := Lib.hid (BB.out.trans ((below_regrown wr dq osq).mono hsz))
        clear z1 z2 z3 z4 z5 z6 f1 f2 f3 f4 f5 f6
        go_wp2_with fail
        go_roundw
        case rel => exact ⟨i + 1, by omega, by go_num, BF.out⟩
        case measure => simp [intOf]; omega
    · obtain rfl : i = L.length := by omega
      have hle : ((L.length : Int) == (ps.length : Int)) = true := by rw [hLe.out]; simp
      have BE := Lib.hid (B1.out.trans ((C4.out.trans (hbel.mono C4.out.size)).mono B1.out.size))
      go_wp2_with fail
      go_ret
      exact ⟨rfl, BE.out⟩

end Go.Proofs.Ytedbfmmklmidjaa

namespace Go.Proofs.Ytedbfmmklmidjaa.fnPathsOrder
open Go.ChangeShapes Go.WideShapes Go.ChangeAt Go.RowKit
open Go.ChangeMaps (open_string shut_string)
set_option linter.unusedVariables false

theorem own : ownKnob Try.prog.godebug = none := by kernel_rfl
theorem laidOut : laidOutB Try.prog = true := by kernel_rfl

set_option maxRecDepth 100000 in
theorem lifted (os : Os) (started : os.Started) (H : Type) (enc : TypeId × Value → H) :
    ReturnsInHanded {} Try.checked os 9 .any (Rows.fnPathsOrderSpec.pre6 enc Try.prog Try.f9 Rows.fnPathsOrderRow.domain false) (Rows.fnPathsOrderSpec.post enc Try.prog Try.f9 false true false false) := by
  refine returnsInHanded_of_change (C := Try.checked) own started (by kernel_rfl) Try.func9
    (ChangeSpec.witness6 (enc := enc) (C := Try.checked) false ⟨#[], #[.slice none 0 0], []⟩ 8 (by kernel_rfl) (by kernel_rfl) (by kernel_rfl) (by kernel_rfl)) ?_
  intro W base args ds gs before hval0 hW hcnd _
  have hval : ∀ (j : Nat) t v, Try.f9.params[j]? = some t → args[j]? = some v → Value.okWide Try.prog W .any base t v := hval0
  have hW' := hW
  obtain ⟨p, q, hA0, hV, rfl, hfz, hnd⟩ := hW
  have hA : DataW.TrodAll enc Try.prog W 0 (fun _ => true) true Try.f9.params.toList args.toList ds p := hA0
  rw [Try.params9] at hA hval
  obtain ⟨v0, vs0, d0, ds0, p0, q0, hargs, rfl, rfl, h0, r0⟩ := trodAll_cons hA
  obtain ⟨rfl, rfl, rfl⟩ := trodAll_nil r0
  obtain rfl : args = #[v0] := by cases args; simp_all
  obtain ⟨rfl, rfl⟩ := trodVars_none hV
  obtain ⟨a0, len0, cap0, rfl⟩ := okWide_slice Try.underlying35 (hval 0 35 v0 rfl rfl)
  have k0 := h0
  have lt0 : ∀ x ∈ p0, x.block < W.heap.size := by obtain ⟨m, hm⟩ := k0; exact DataW.trod_lt m _ _ _ hm
  obtain ⟨z0, w0⟩ : ∃ zs, IsRowK .u8 W a0 len0 cap0 zs := by
    obtain ⟨fuel, hf⟩ := h0
    rcases open_ints Try.underlying35 Try.underlying5 (by kernel_rfl) hf with ⟨hcs, _⟩ | ⟨x, l, c, zs, hcs, _, hl, hm, hz, _, hcell, hwz⟩
    · simp [Value.cells] at hcs
      obtain ⟨rfl, rfl, rfl⟩ := hcs
      exact ⟨[], .inl ⟨rfl, rfl, rfl, rfl⟩⟩
    · simp [Value.cells] at hcs
      obtain ⟨rfl, rfl, rfl⟩ := hcs
      exact ⟨zs, .inr ⟨_, rfl, hl, hm, by simpa using hz, hcell, hwz⟩⟩
  clear hA0 hval0
  refine (walk_FnPathsOrder a0 len0 cap0 z0 W w0).mono fun e W' ⟨he, bel⟩ => ?_
  subst he
  exact ⟨_, rfl, _, _, _, [], _, [], hW', trodAll_mk1 (shut_bool Try.underlying4 _), (trodAll_cons_mk (Below.trod laidOut (by kernel_rfl) (of_decide_eq_true (by kernel_rfl)) k0 bel lt0) trodAll_mk0), rfl, bel.frame _, fun h => by cases h⟩

theorem closed : joinedFacts Try.checked.prog 9 Try.f9 Rows.fnPathsOrderSpec Rows.fnPathsOrderRow = true := by
  unfold joinedFacts
  simp only [Bool.and_eq_true]
  repeat' (refine And.intro ?_ ?_)
  all_goals first
    | with_reducible exact may_enter
    | (rw [lifts_final]; kernel_rfl)
    | (rw [make_is]; kernel_rfl)
    | kernel_rfl

theorem over : Rows.fnPathsOrderRow.holds Try.pinned (OpenSpec.ofChange Rows.fnPathsOrderSpec) :=
  OpenClaim.holds_of_wide 9 Try.f9 rfl rfl rfl rfl rfl rfl rfl ⟨rfl, rfl, rfl, rfl, rfl⟩ rfl rfl rfl rfl rfl (by kernel_rfl) Try.func9 closed
    (of_decide_eq_true (by kernel_rfl)) (by unfold Func.isWrapper; first | (rw [if_pos (by decide +kernel)]; kernel_rfl) | (rw [if_neg (by decide +kernel)]; exact ⟨rfl, rfl⟩))
    (fun os started H enc _ => lifted os started H enc)

theorem proved : Rows.FnPathsOrderSaid := over
#print axioms proved
end Go.Proofs.Ytedbfmmklmidjaa.fnPathsOrder
