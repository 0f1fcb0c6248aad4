/-
  For every input the law 'FnBusy' returns true, and each of its arguments reads behind the call as it read before. Conditions: none beyond those of the row.
-/
import Derived.Test.YtedbfmmklmidjaaRows
import Derived.WalkKit
import Derived.ProofKit
import Derived.OpenShut
import Derived.ShutString
import Derived.ChangeOld
import Derived.Below
import Derived.Deep.Matrix
import Derived.Test.YtedbfmmklmidjaaIo
import Derived.Test.YtedbfmmklmidjaaBusyQ
import Derived.Lib.QuietBelow
import Derived.BigRegion
import Derived.BigQuiet
namespace Go.Proofs.Ytedbfmmklmidjaa
open Go.RowKit

open Go.Sort

set_option maxRecDepth 100000 in
set_option maxHeartbeats 8000000 in
theorem walk_FnBusy (a0 : Option Addr) (len0 cap0 : Nat) (z0 : List Int) (w : World) (w0 : IsRowK .u8 w a0 len0 cap0 z0) :
    Calls Try.prog 14 #[.slice a0 len0 cap0] w fun e w' => e = .returned (.bool true) ∧ Below w.heap.size w w' := by
  rcases Nat.lt_or_ge 1048576 len0 with hbig | hsm
  · have hb : (1048576 : Int) < (len0 : Int) := by omega
    go_enter Try.func14, Try.ntmps14
    go_wp2_with fail
    go_ret
    exact ⟨rfl, Below.refl _ _⟩
  have hb : (len0 : Int) ≤ 1048576 := by omega
  have DS := Lib.hid (drawBusy w0 hsm)
  clear w0
  go_enter Try.func14, Try.ntmps14
  go_wp2_with (go_at_call 61; refine DS.out.mono ?_)
  rintro e w1 ⟨n, b, c, vs, ps, k, rfl, hn1, hn4, hpl, hk0, hk1, lq, b1⟩
  have hpp := lq.paths (by omega)
  have GI := Lib.hid (implBusy (n := (n : Int)) (k := k) hpp)
  have GS := Lib.hid (fun (X : World) (hX : Below w1.heap.size w1 X) => specBusy (n := (n : Int)) (k := k) (hpp.below hX))
  have GO := Lib.hid (fun (X : World) (hX : Below w1.heap.size w1 X) => implOrder (n := (n : Int)) (k := k) (hpp.below hX))
  have GG := Lib.hid (fun (X : World) (hX : Below w1.heap.size w1 X) => implGap (n := (n : Int)) (k := k) (hpp.below hX))
  obtain ⟨V, hV⟩ : ∃ V, V = busyOf (n : Int) ps k := ⟨_, rfl⟩
  rw [← hV] at GI GS
  have HV := Lib.hid hV
  have HP := Lib.hid hpp
  have B1 := Lib.hid b1
  clear hpp lq DS hV b1
  go_wp2_with (go_at_call 60; refine GI.out.mono ?_)
  rintro e w2 ⟨rfl, b2⟩
  go_wp2_with (go_at_call 62; refine (GS.out _ b2).mono ?_)
  rintro e w3 ⟨rfl, b3⟩
  have C3 := Lib.hid (b2.trans (b3.mono b2.size))
  clear b2 b3 GI GS
  by_cases hneg : V < 0
  · have hd : decide (V < 0) = true := decide_eq_true hneg
    have CE := Lib.hid (B1.out.trans (C3.out.mono B1.out.size))
    go_wp2_with fail
    go_ret
    exact ⟨rfl, CE.out⟩
  have hd : decide (V < 0) = false := decide_eq_false hneg
  have hhas : hasB (n : Int) ps k = true := by
    cases e : hasB (n : Int) ps k
    · have := HV.out; rw [busyOf_no e] at this; omega
    · rfl
  obtain ⟨hpb, hk0', hkn⟩ := hasB_is hhas
  obtain ⟨k, rfl⟩ : ∃ m : Nat, k = (m : Int) := ⟨k.toNat, by omega⟩
  have hV2 : V = busyTo ps k ps.length := by rw [HV.out, busyOf_yes hhas, Int.toNat_natCast]
  have hLo : ordV (n : Int) ps (k : Int) = orderOf ps k := by unfold ordV; rw [hhas, if_pos rfl, Int.toNat_natCast]
  have hlen := order_len ps k
  obtain ⟨L, hL⟩ : ∃ L, L = orderOf ps k := ⟨_, rfl⟩
  rw [← hL] at hlen hLo
  have GO := GO.out _ C3.out
  rw [hLo, hhas] at GO
  have GO := Lib.hid GO
  have HLL := Lib.hid hL
  have H2 := Lib.hid hhas
  have PB := Lib.hid hpb
  clear hhas hLo hk0 hk1 hV2 hneg hL hpb
  go_wp2_with (go_at_call 47; refine GO.out.mono ?_)
  rintro e w4 ⟨v4, rfl, o4, b4⟩
  obtain ⟨a4, d4, rfl⟩ := own_slice2 o4
  have C4 := Lib.hid (C3.out.trans (b4.mono C3.out.size))
  have CE := Lib.hid (B1.out.trans (C4.out.mono B1.out.size))
  have O4 := Lib.hid o4
  have HLE := Lib.hid hlen
  clear o4 b4 GO hlen
  by_cases h2 : L.length < 2
  · have h2i : (L.length : Int) < 2 := by omega
    by_cases h0 : L.length = 0
    · have hV0 : V = 0 := by
        have := HV.out
        rw [busyOf_yes H2.out, ← HLE.out, h0, Int.toNat_natCast] at this
        exact this
      subst hV0
      rw [h0]
      go_wp2_with fail
      go_ret
      exact ⟨rfl, CE.out⟩
    · have h1 : L.length = 1 := by omega
      rw [h1]
      go_wp2_with fail
      go_ret
      exact ⟨rfl, CE.out⟩
  have h2i : ¬ (L.length : Int) < 2 := by omega
  rcases O4.out.shape with ⟨_, e⟩ | ⟨g, cg, e, -, hg⟩
  · rw [e] at h2; simp at h2
  simp only [Value.slice.injEq, true_and] at e
  obtain ⟨rfl, -⟩ := e
  obtain ⟨m, hm⟩ : ∃ m, m + 1 = L.length := ⟨L.length - 1, by omega⟩
  have hle := busy_fits (k := k) PB.out (show m + 1 = ps.length by rw [hm, HLE.out])
  have hgb := gapTo_bounds PB.out hkn (ps.length - 1) (by rw [← HLE.out]; omega)
  have hbb := busyTo_bounds PB.out hkn ps.length (Nat.le_refl _)
  have hVV : V = busyTo ps k ps.length := by rw [HV.out, busyOf_yes H2.out, Int.toNat_natCast]
  have hGG : gapOf (n : Int) ps (k : Int) = gapTo ps k (orderOf ps k) (ps.length - 1) := by rw [gapOf_is H2.out (by rw [← HLE.out]; omega), Int.toNat_natCast]
  obtain ⟨G, hG⟩ : ∃ G, G = gapTo ps k (orderOf ps k) (ps.length - 1) := ⟨_, rfl⟩
  rw [← hG] at hle hgb hGG
  rw [← hVV] at hle hbb
  rw [← HLL.out] at hle
  have hgx : ∀ i, i < L.length → 0 ≤ L.getD i 0 ∧ (L.getD i 0).toNat < ps.length := fun i hi => by rw [HLL.out] at hi ⊢; exact order_get hi
  obtain ⟨x0, xl⟩ := hgx m (by omega)
  obtain ⟨y0, yl⟩ := hgx 0 (by omega)
  have cx := OwnI.readAt O4.out m (by omega)
  have cy := OwnI.readAt O4.out 0 (by omega)
  obtain ⟨X, hX⟩ : ∃ X : Nat, X = (L.getD m 0).toNat := ⟨_, rfl⟩
  obtain ⟨Y, hY⟩ : ∃ Y : Nat, Y = (L.getD 0 0).toNat := ⟨_, rfl⟩
  have ex : L.getD m 0 = (X : Int) := by omega
  have ey : L.getD 0 0 = (Y : Int) := by omega
  rw [ex] at cx
  rw [ey] at cy
  rw [← hX] at xl hle
  rw [← hY] at yl hle
  have hat0 := paths_at HP.out xl
  obtain ⟨_, o, e, hb1', hat⟩ := hat0
  simp only [Option.some.injEq, Addr.mk.injEq, and_true] at e
  obtain ⟨rfl, rfl⟩ := e
  obtain ⟨b1, o1, k1, b2, o2, k2, c1, c2, -, hb1, hb2, d1, d2⟩ := paths_cells hat PB.out xl hkn
  obtain ⟨b3, o3, k3, b4, o4, k4, c3, c4, -, hb3, hb4, d3, d4'⟩ := paths_cells hat PB.out yl hkn
  obtain ⟨r1, r2, r3, r4, r5⟩ := sec_bounds PB.out xl hkn
  obtain ⟨u1, u2, u3, u4, u5⟩ := sec_bounds PB.out yl hkn
  have old : ∀ (q : Addr) (v : Value), q.block < w1.heap.size → w1.cell? q = some v → w4.cell? q = some v := fun q v hq hv => (C4.out.cell hq).trans hv
  have f1 := old _ _ hb1' c2
  have f2 := old _ _ hb1' c3
  simp only [Nat.zero_add] at f1 f2
  have f3 := old _ _ hb2 d2
  have f4 := old _ _ hb3 d3
  unfold inAt outAt at hle
  generalize (ps.getD X noPath).2.length = l1 at f1 r2
  generalize (ps.getD Y noPath).1.length = l2 at f2 u1
  generalize (ps.getD X noPath).2.getD k 0 = t at f3 hle r4 r5
  generalize (ps.getD Y noPath).1.getD k 0 = s at f4 hle u3 u4
  have hm9 : m ≤ 8 := by have := HLE.out; omega
  obtain ⟨P, hP⟩ : ∃ P, P = G * (m : Int) := ⟨_, rfl⟩
  have hPb : -20000 ≤ P ∧ P ≤ 20000 := by
    have q : m = 0 ∨ m = 1 ∨ m = 2 ∨ m = 3 ∨ m = 4 ∨ m = 5 ∨ m = 6 ∨ m = 7 ∨ m = 8 := by omega
    rcases q with rfl | rfl | rfl | rfl | rfl | rfl | rfl | rfl | rfl <;> simp only [hP] <;> omega
  rw [← hP] at hle
  have hwm : IntKind.i64.wrap ((L.length : Int) - 1) = (m : Int) := by rw [IntWalk.i64_in _ (by omega)]; omega
  have hwm' : wrap64 ((L.length : Int) - 1) = (m : Int) := (IntWalk.i64_left _).symm.trans hwm
  have hwp : IntKind.i64.wrap (G * (m : Int)) = P := by rw [← hP]; exact IntWalk.i64_in _ (by omega)
  have hwp' : wrap64 (G * (m : Int)) = P := (IntWalk.i64_left _).symm.trans hwp
  have hwv : IntKind.i64.wrap (V + P) = V + P := IntWalk.i64_in _ (by omega)
  have hwt : IntKind.i64.wrap (t - s) = t - s := IntWalk.i64_in _ (by omega)
  have hdl : decide (V + P ≤ t - s) = true := decide_eq_true hle
  have hXi : (X : Int) < (ps.length : Int) := by omega
  have hYi : (Y : Int) < (ps.length : Int) := by omega
  have hkl1 : (k : Int) < (l1 : Int) := by omega
  have hkl2 : (k : Int) < (l2 : Int) := by omega
  have hmi : (m : Int) < (L.length : Int) := by omega
  have hmn : m < L.length := by omega
  have h0i : (0 : Int) < (L.length : Int) := by omega
  have h0n : 0 < L.length := by omega
  have GQ := Lib.hid (fun dd os => Calls.regrown_of (GG.out (grow (redrawn w4 dd) os) (C4.out.trans ((below_regrown w4 dd os).mono C4.out.size))))
  rw [hGG] at GQ
  clear hP hle hgb hGG hG hVV hX hY ex ey x0 y0 hat c1 c2 c3 c4 d1 d2 d3 d4' old r1 r2 r3 r4 r5 u1 u2 u3 u4 u5 hgx
  go_upto_region 12 with fail
  have z1 := fun d os => cell_regrown f1 d os
  have z2 := fun d os => cell_regrown f2 d os
  have z3 := fun d os => cell_regrown f3 d os
  have z4 := fun d os => cell_regrown f4 d os
  have z5 := fun d os => cell_regrown cx d os
  have z6 := fun d os => cell_regrown cy d os
  refine wp_region_quiet_below (by kernel_rfl) (by kernel_rfl) ?_
  repeat (go_big_quiet_step (exact GQ.out _ _))
  refine wpQuiet_nil ?_
  intro _ hw'
  obtain ⟨⟨dq, osq⟩, hw''⟩ := hw'
  subst hw''
  have BF := Lib.hid (CE.out.trans ((below_regrown w4 dq osq).mono CE.out.size))
  clear z1 z2 z3 z4 z5 z6 f1 f2 f3 f4
  go_wp2_with fail
  go_ret
  exact ⟨rfl, BF.out⟩

end Go.Proofs.Ytedbfmmklmidjaa

namespace Go.Proofs.Ytedbfmmklmidjaa.fnBusy
open Go.ChangeShapes Go.WideShapes Go.ChangeAt Go.RowKit
open Go.ChangeMaps (open_string shut_string)
set_option linter.unusedVariables false

theorem own : ownKnob Try.prog.godebug = none := by kernel_rfl
theorem laidOut : laidOutB Try.prog = true := by kernel_rfl

set_option maxRecDepth 100000 in
theorem lifted (os : Os) (started : os.Started) (H : Type) (enc : TypeId × Value → H) :
    ReturnsInHanded {} Try.checked os 14 .any (Rows.fnBusySpec.pre6 enc Try.prog Try.f14 Rows.fnBusyRow.domain false) (Rows.fnBusySpec.post enc Try.prog Try.f14 false true false false) := by
  refine returnsInHanded_of_change (C := Try.checked) own started (by kernel_rfl) Try.func14
    (ChangeSpec.witness6 (enc := enc) (C := Try.checked) false ⟨#[], #[.slice none 0 0], []⟩ 8 (by kernel_rfl) (by kernel_rfl) (by kernel_rfl) (by kernel_rfl)) ?_
  intro W base args ds gs before hval0 hW hcnd _
  have hval : ∀ (j : Nat) t v, Try.f14.params[j]? = some t → args[j]? = some v → Value.okWide Try.prog W .any base t v := hval0
  have hW' := hW
  obtain ⟨p, q, hA0, hV, rfl, hfz, hnd⟩ := hW
  have hA : DataW.TrodAll enc Try.prog W 0 (fun _ => true) true Try.f14.params.toList args.toList ds p := hA0
  rw [Try.params14] at hA hval
  obtain ⟨v0, vs0, d0, ds0, p0, q0, hargs, rfl, rfl, h0, r0⟩ := trodAll_cons hA
  obtain ⟨rfl, rfl, rfl⟩ := trodAll_nil r0
  obtain rfl : args = #[v0] := by cases args; simp_all
  obtain ⟨rfl, rfl⟩ := trodVars_none hV
  obtain ⟨a0, len0, cap0, rfl⟩ := okWide_slice Try.underlying35 (hval 0 35 v0 rfl rfl)
  have k0 := h0
  have lt0 : ∀ x ∈ p0, x.block < W.heap.size := by obtain ⟨m, hm⟩ := k0; exact DataW.trod_lt m _ _ _ hm
  obtain ⟨z0, w0⟩ : ∃ zs, IsRowK .u8 W a0 len0 cap0 zs := by
    obtain ⟨fuel, hf⟩ := h0
    rcases open_ints Try.underlying35 Try.underlying5 (by kernel_rfl) hf with ⟨hcs, _⟩ | ⟨x, l, c, zs, hcs, _, hl, hm, hz, _, hcell, hwz⟩
    · simp [Value.cells] at hcs
      obtain ⟨rfl, rfl, rfl⟩ := hcs
      exact ⟨[], .inl ⟨rfl, rfl, rfl, rfl⟩⟩
    · simp [Value.cells] at hcs
      obtain ⟨rfl, rfl, rfl⟩ := hcs
      exact ⟨zs, .inr ⟨_, rfl, hl, hm, by simpa using hz, hcell, hwz⟩⟩
  clear hA0 hval0
  refine (walk_FnBusy a0 len0 cap0 z0 W w0).mono fun e W' ⟨he, bel⟩ => ?_
  subst he
  exact ⟨_, rfl, _, _, _, [], _, [], hW', trodAll_mk1 (shut_bool Try.underlying4 _), (trodAll_cons_mk (Below.trod laidOut (by kernel_rfl) (of_decide_eq_true (by kernel_rfl)) k0 bel lt0) trodAll_mk0), rfl, bel.frame _, fun h => by cases h⟩

theorem closed : joinedFacts Try.checked.prog 14 Try.f14 Rows.fnBusySpec Rows.fnBusyRow = true := by
  unfold joinedFacts
  simp only [Bool.and_eq_true]
  repeat' (refine And.intro ?_ ?_)
  all_goals first
    | with_reducible exact may_enter
    | (rw [lifts_final]; kernel_rfl)
    | (rw [make_is]; kernel_rfl)
    | kernel_rfl

theorem over : Rows.fnBusyRow.holds Try.pinned (OpenSpec.ofChange Rows.fnBusySpec) :=
  OpenClaim.holds_of_wide 14 Try.f14 rfl rfl rfl rfl rfl rfl rfl ⟨rfl, rfl, rfl, rfl, rfl⟩ rfl rfl rfl rfl rfl (by kernel_rfl) Try.func14 closed
    (of_decide_eq_true (by kernel_rfl)) (by unfold Func.isWrapper; first | (rw [if_pos (by decide +kernel)]; kernel_rfl) | (rw [if_neg (by decide +kernel)]; exact ⟨rfl, rfl⟩))
    (fun os started H enc _ => lifted os started H enc)

theorem proved : Rows.FnBusySaid := over
#print axioms proved
end Go.Proofs.Ytedbfmmklmidjaa.fnBusy
