/-
  For every input the law 'FnOffset' returns true, and each of its arguments reads behind the call as it read before. Conditions: none beyond those of the row.
-/
import Derived.Test.YtphadofigcipcaaRows
import Derived.WalkKit
import Derived.ProofKit
import Derived.OpenShut
import Derived.ShutString
import Derived.ChangeOld
import Derived.Below
import Derived.Deep.Matrix
import Derived.Test.YtphadofigcipcaaIo
import Derived.Test.YtphadofigcipcaaDrawI
import Derived.Test.YtphadofigcipcaaRegW
import Derived.Test.YtphadofigcipcaaRegO2
import Derived.Lib.QuietBelow
import Derived.BigQuiet
namespace Go.Proofs.Ytphadofigcipcaa
open Go.RowKit

set_option maxRecDepth 100000 in
set_option maxHeartbeats 8000000 in
theorem walk_FnOffset (a0 : Option Addr) (len0 cap0 : Nat) (z0 : List Int) (w : World) (w0 : IsRowK .u8 w a0 len0 cap0 z0) :
    Calls Try.prog 3 #[.slice a0 len0 cap0] w fun e w' => e = .returned (.bool true) ∧ Below w.heap.size w w' := by
  rcases Nat.lt_or_ge 1048576 len0 with hbig | hsm
  · have hb : (1048576 : Int) < (len0 : Int) := by omega
    go_enter Try.func3, Try.ntmps3
    go_wp2_with fail
    go_ret
    exact ⟨rfl, Below.refl _ _⟩
  have hb : (len0 : Int) ≤ 1048576 := by omega
  have DN := Lib.hid (drawOffset w0 hsm)
  clear w0
  go_enter Try.func3, Try.ntmps3
  go_upto_region 4 with (go_at_call 14; refine DN.out.mono ?_; rintro e u1 ⟨u, v, ms, ns, sl, rfl, m1, m2, hm, hn, hs0, hs1, b1⟩)
  have M := Lib.hid (fun (X : World) (c : Below u1.heap.size u1 X) => (Rd.below m1 c : Mvs X u ms))
  have N := Lib.hid (fun (X : World) (c : Below u1.heap.size u1 X) => (Rd.below m2 c : Mvs X v ns))
  have C1 := Lib.hid b1
  have U0 := Lib.hid (below_self u1)
  clear m1 m2 b1 DN
  have IE := Lib.hid (fun (X : World) (c : Below u1.heap.size u1 X) => implRegisterOffset (M.out X c) (N.out X c) sl)
  have SE := Lib.hid (fun (X : World) (c : Below u1.heap.size u1 X) => specRegisterOffset (M.out X c) (N.out X c) sl)
  obtain ⟨r, hr⟩ : ∃ r, r = offO ms ns sl := ⟨_, rfl⟩
  rw [← hr] at IE SE
  have HRR := Lib.hid hr.symm
  clear hr
  cases r with
  | none =>
    have IE := Lib.hid (fun (X : World) (c : Below u1.heap.size u1 X) => show Calls Try.prog 15 #[u, v, .int .i64 sl] X fun e w' => e = .returned (.tuple #[.int .i64 0, .bool false]) ∧ Below X.heap.size X w' from IE.out X c)
    have SE := Lib.hid (fun (X : World) (c : Below u1.heap.size u1 X) => show Calls Try.prog 16 #[u, v, .int .i64 sl] X fun e w' => e = .returned (.tuple #[.int .i64 0, .bool false]) ∧ Below X.heap.size X w' from SE.out X c)
    go_wp2_with (first
      | (go_at_call 15; refine (IE.out _ U0.out).mono ?_; rintro e u2 ⟨rfl, b2⟩)
      | (go_at_call 16; refine (SE.out _ b2).mono ?_; rintro e u3 ⟨rfl, b3⟩))
    go_ret
    exact ⟨rfl, C1.out.trans ((b2.trans (b3.mono b2.size)).mono C1.out.size)⟩
  | some o =>
  have IE := Lib.hid (fun (X : World) (c : Below u1.heap.size u1 X) => show Calls Try.prog 15 #[u, v, .int .i64 sl] X fun e w' => e = .returned (.tuple #[.int .i64 o, .bool true]) ∧ Below X.heap.size X w' from IE.out X c)
  have SE := Lib.hid (fun (X : World) (c : Below u1.heap.size u1 X) => show Calls Try.prog 16 #[u, v, .int .i64 sl] X fun e w' => e = .returned (.tuple #[.int .i64 o, .bool true]) ∧ Below X.heap.size X w' from SE.out X c)
  have t1 : (o != o) = false := by simp
  go_upto_region 5 with (go_at_call 15; refine (IE.out _ U0.out).mono ?_; rintro e u2 ⟨rfl, b2⟩)
  have B2 := Lib.hid b2
  clear b2
  go_upto_region 6 with (go_at_call 16; refine (SE.out _ B2.out).mono ?_; rintro e u3 ⟨rfl, b3⟩)
  have B3 := Lib.hid (B2.out.trans (b3.mono B2.out.size))
  clear b3
  obtain ⟨F1, F2, F3, F4, F5, F6, F7, F8, F9, F10, F11⟩ := offO_facts HRR.out
  have HF11 := Lib.hid F11
  have HL := Lib.hid F4
  have SELF := offO_self F1 F5 F6
  have K2 := Lib.hid (fun (X : World) (c : Below u1.heap.size u1 X) => show Calls Try.prog 15 #[u, u, .int .i64 sl] X fun e w' => e = .returned (.tuple #[.int .i64 (offL ms ms sl ms.length), .bool true]) ∧ Below X.heap.size X w' from by
    have q := implRegisterOffset (M.out X c) (M.out X c) sl
    rw [SELF.1] at q
    exact q)
  have hself := SELF.2
  obtain ⟨y, hy⟩ : ∃ y, y = offL ms ms sl ms.length := ⟨_, rfl⟩
  rw [← hy] at K2 hself
  have K1 := Lib.hid (fun (X : World) (c : Below u1.heap.size u1 X) => implRegisterOffset (M.out X c) (N.out X c) (sl + 1))
  have FM := Lib.hid (fun (q : sl ≠ 5) => offO_more HRR.out q)
  obtain ⟨rx, hrx⟩ : ∃ rx, rx = offO ms ns (sl + 1) := ⟨_, rfl⟩
  rw [← hrx] at K1 FM
  have K1 := Lib.hid (fun (X : World) (c : Below u1.heap.size u1 X) => show Calls Try.prog 15 #[u, v, .int .i64 (sl + 1)] X fun e w' => e = .returned (.tuple #[.int .i64 (rx.getD 0), .bool rx.isSome]) ∧ Below X.heap.size X w' from K1.out X c)
  have hw1 : wrap64 (sl + 1) = sl + 1 := IntWalk.wrap64_in _ (by omega)
  have hu : ∃ a c, u = .slice a ms.length c := by obtain ⟨a, c, e, -⟩ := M.out _ U0.out; exact ⟨a, c, e⟩
  have hv : ∃ a c, v = .slice a ns.length c := by obtain ⟨a, c, e, -⟩ := N.out _ U0.out; exact ⟨a, c, e⟩
  obtain ⟨au, cu, rfl⟩ := hu
  obtain ⟨av, cv, rfl⟩ := hv
  have MIN := Lib.hid (And.intro F1 F2)
  have HSL := Lib.hid (And.intro F5 F6)
  have HOB := Lib.hid (And.intro F9 F10)
  have HSF := Lib.hid hself
  clear F1 F2 F3 F4 F7 F8 F11 SELF hy hrx IE SE F5 F6 F9 F10 hself
  go_upto_region 9 with (go_at_call 15; refine (K1.out _ B3.out).mono ?_; rintro e u4 ⟨rfl, b4⟩)
  have B4 := Lib.hid (B3.out.trans (b4.mono B3.out.size))
  clear b4 t1 hw1
  go_upto_region 11 with (go_at_call 15; refine (K2.out _ B4.out).mono ?_; rintro e u5 ⟨rfl, b5⟩)
  have B5 := Lib.hid (B4.out.trans (b5.mono B4.out.size))
  have W5 := Lib.hid (below_self u5)
  have hmi : (ms.length : Int) ≤ 33 := by omega
  clear b5
  go_loopw [14] (fun i wr => ∃ k : Nat, k ≤ ms.length ∧ i = .int .i64 k ∧ Hid (Below u5.heap.size u5 wr)) (fun i _ => ms.length - (intOf i).toNat)
  case atStart => exact ⟨0, by omega, rfl, W5⟩
  case round =>
    obtain ⟨k, hk, rfl, HB⟩ := hrel
    by_cases hlt : k < ms.length
    · have hki : (k : Int) < (ms.length : Int) := by omega
      have hln := HL.out
      have hki2 : (k : Int) < (ns.length : Int) := by omega
      have hkn2 : k < ns.length := by omega
      have BW := Lib.hid (B5.out.trans (HB.out.mono B5.out.size))
      obtain ⟨b, o1, rfl, hbb, hc1⟩ := Mvs.at (M.out _ BW.out) hlt
      obtain ⟨b2, o2, rfl, hbb2, hc2⟩ := Mvs.at (N.out _ BW.out) hkn2
      have c1 := (hc1 k hlt).1
      have c2 := (hc2 k hkn2).1
      have n1 := reg_note MIN.out.1 hlt
      have n2 := reg_note MIN.out.2 hkn2
      have AG := HF11.out k hlt
      unfold latN at AG
      obtain ⟨x, hx⟩ : ∃ x, x = (ms.getD k noMv).1 := ⟨_, rfl⟩
      obtain ⟨y2, hy2⟩ : ∃ x, x = (ns.getD k noMv).1 := ⟨_, rfl⟩
      rw [← hx] at c1 n1 AG
      rw [← hy2] at c2 n2 AG
      have E1 := fun d os => cell_regrown c1 d os
      have E2 := fun d os => cell_regrown c2 d os
      have hob := HOB.out
      have hsl := HSL.out
      have hw1 : IntKind.i64.wrap (y2 - x) = y2 - x := IntWalk.i64_in _ (by omega)
      have hw2 : IntKind.i64.wrap (y2 - x - o) = y2 - x - o := IntWalk.i64_in _ (by omega)
      have HK := Lib.hid hlt
      have D1 := Lib.hid (show decide (sl < y2 - x - o) = false ∧ decide (y2 - x - o < -sl) = false from ⟨decide_eq_false (by omega), decide_eq_false (by omega)⟩)
      have hws : IntKind.i64.wrap (-sl) = -sl := IntWalk.i64_in _ (by omega)
      have hws2 : wrap64 (-sl) = -sl := IntWalk.wrap64_in _ (by omega)
      have HWS := Lib.hid (And.intro hws hws2)
      clear hx hy2 hc1 hc2 c1 c2 n1 n2 AG hob hsl hbb hbb2 hlt hws hws2 hln
      go_upto_region 13 with fail
      refine wp_region_quiet_below (by kernel_rfl) (by kernel_rfl) ?_
      repeat (go_big_quiet_step (skip))
      refine wpQuiet_nil ?_
      intro _ hw'
      obtain ⟨⟨dq, osq⟩, hw''⟩ := hw'
      subst hw''
      have BR := Lib.hid (below_regrown wr dq osq)
      obtain ⟨d, hd⟩ : ∃ d, d = y2 - x - o := ⟨_, rfl⟩
      have D2 := D1.out
      rw [← hd] at D2 ⊢
      obtain ⟨D3, D4⟩ := D2
      have HB2 := Lib.hid (HB.out.trans (BR.out.mono HB.out.size))
      obtain ⟨hws, hws2⟩ := HWS.out
      clear hd hw1 hw2 E1 E2 BR
      go_wp2_with fail
      go_roundw
      case rel => exact ⟨k + 1, by have := HK.out; omega, by go_num, HB2⟩
      case measure => have := HK.out; simp [intOf]; omega
    · obtain rfl : k = ms.length := by omega
      have hff : decide ((ms.length : Int) < (ms.length : Int)) = false := decide_eq_false (by omega)
      have e1 : decide (y ≤ 0) = true := decide_eq_true HSF.out
      have e2 : ((ms.length : Int) == (ns.length : Int)) = true := by rw [HL.out]; simp
      have BZ := Lib.hid (C1.out.trans ((B5.out.trans (HB.out.mono B5.out.size)).mono C1.out.size))
      clear hk hlt
      by_cases h5 : sl = 5
      · have e3 : (sl == 5) = true := by simp [h5]
        clear h5 FM
        go_wp2_with fail
        go_ret
        exact ⟨rfl, BZ.out⟩
      · have e3 : (sl == 5) = false := by simp [h5]
        obtain ⟨z, hz, hzo⟩ := FM.out h5
        subst hz
        have e4 : decide (z ≤ o) = true := decide_eq_true hzo
        clear h5 hzo FM
        go_wp2_with fail
        go_ret
        exact ⟨rfl, BZ.out⟩

end Go.Proofs.Ytphadofigcipcaa

namespace Go.Proofs.Ytphadofigcipcaa.fnOffset
open Go.ChangeShapes Go.WideShapes Go.ChangeAt Go.RowKit
open Go.ChangeMaps (open_string shut_string)
set_option linter.unusedVariables false

theorem own : ownKnob Try.prog.godebug = none := by kernel_rfl
theorem laidOut : laidOutB Try.prog = true := by kernel_rfl

set_option maxRecDepth 100000 in
theorem lifted (os : Os) (started : os.Started) (H : Type) (enc : TypeId × Value → H) :
    ReturnsInHanded {} Try.checked os 3 .any (Rows.fnOffsetSpec.pre6 enc Try.prog Try.f3 Rows.fnOffsetRow.domain false) (Rows.fnOffsetSpec.post enc Try.prog Try.f3 false true false false) := by
  refine returnsInHanded_of_change (C := Try.checked) own started (by kernel_rfl) Try.func3
    (ChangeSpec.witness6 (enc := enc) (C := Try.checked) false ⟨#[], #[.slice none 0 0], []⟩ 8 (by kernel_rfl) (by kernel_rfl) (by kernel_rfl) (by kernel_rfl)) ?_
  intro W base args ds gs before hval0 hW hcnd _
  have hval : ∀ (j : Nat) t v, Try.f3.params[j]? = some t → args[j]? = some v → Value.okWide Try.prog W .any base t v := hval0
  have hW' := hW
  obtain ⟨p, q, hA0, hV, rfl, hfz, hnd⟩ := hW
  have hA : DataW.TrodAll enc Try.prog W 0 (fun _ => true) true Try.f3.params.toList args.toList ds p := hA0
  rw [Try.params3] at hA hval
  obtain ⟨v0, vs0, d0, ds0, p0, q0, hargs, rfl, rfl, h0, r0⟩ := trodAll_cons hA
  obtain ⟨rfl, rfl, rfl⟩ := trodAll_nil r0
  obtain rfl : args = #[v0] := by cases args; simp_all
  obtain ⟨rfl, rfl⟩ := trodVars_none hV
  obtain ⟨a0, len0, cap0, rfl⟩ := okWide_slice Try.underlying22 (hval 0 22 v0 rfl rfl)
  have k0 := h0
  have lt0 : ∀ x ∈ p0, x.block < W.heap.size := by obtain ⟨m, hm⟩ := k0; exact DataW.trod_lt m _ _ _ hm
  obtain ⟨z0, w0⟩ : ∃ zs, IsRowK .u8 W a0 len0 cap0 zs := by
    obtain ⟨fuel, hf⟩ := h0
    rcases open_ints Try.underlying22 Try.underlying5 (by kernel_rfl) hf with ⟨hcs, _⟩ | ⟨x, l, c, zs, hcs, _, hl, hm, hz, _, hcell, hwz⟩
    · simp [Value.cells] at hcs
      obtain ⟨rfl, rfl, rfl⟩ := hcs
      exact ⟨[], .inl ⟨rfl, rfl, rfl, rfl⟩⟩
    · simp [Value.cells] at hcs
      obtain ⟨rfl, rfl, rfl⟩ := hcs
      exact ⟨zs, .inr ⟨_, rfl, hl, hm, by simpa using hz, hcell, hwz⟩⟩
  clear hA0 hval0
  refine (walk_FnOffset a0 len0 cap0 z0 W w0).mono fun e W' ⟨he, bel⟩ => ?_
  subst he
  exact ⟨_, rfl, _, _, _, [], _, [], hW', trodAll_mk1 (shut_bool Try.underlying4 _), (trodAll_cons_mk (Below.trod laidOut (by kernel_rfl) (of_decide_eq_true (by kernel_rfl)) k0 bel lt0) trodAll_mk0), rfl, bel.frame _, fun h => by cases h⟩

theorem closed : joinedFacts Try.checked.prog 3 Try.f3 Rows.fnOffsetSpec Rows.fnOffsetRow = true := by
  unfold joinedFacts
  simp only [Bool.and_eq_true]
  repeat' (refine And.intro ?_ ?_)
  all_goals first
    | with_reducible exact may_enter
    | (rw [lifts_final]; kernel_rfl)
    | (rw [make_is]; kernel_rfl)
    | kernel_rfl

theorem over : Rows.fnOffsetRow.holds Try.pinned (OpenSpec.ofChange Rows.fnOffsetSpec) :=
  OpenClaim.holds_of_wide 3 Try.f3 rfl rfl rfl rfl rfl rfl rfl ⟨rfl, rfl, rfl, rfl, rfl⟩ rfl rfl rfl rfl rfl (by kernel_rfl) Try.func3 closed
    (of_decide_eq_true (by kernel_rfl)) (by unfold Func.isWrapper; first | (rw [if_pos (by decide +kernel)]; kernel_rfl) | (rw [if_neg (by decide +kernel)]; exact ⟨rfl, rfl⟩))
    (fun os started H enc _ => lifted os started H enc)

theorem proved : Rows.FnOffsetSaid := over
#print axioms proved
end Go.Proofs.Ytphadofigcipcaa.fnOffset
