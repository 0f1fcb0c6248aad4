/-
  For every input the law 'FnSlack' returns true, and each of its arguments reads behind the call as it read before. Conditions: none beyond those of the row.
-/
import Derived.Test.YtphadofigcipcaaRows
import Derived.WalkKit
import Derived.ProofKit
import Derived.OpenShut
import Derived.ShutString
import Derived.ChangeOld
import Derived.Below
import Derived.Deep.Matrix
import Derived.Test.YtphadofigcipcaaIo
import Derived.Test.YtphadofigcipcaaDrawI
import Derived.Test.YtphadofigcipcaaRegW
import Derived.Test.YtphadofigcipcaaRegO2
import Derived.Lib.QuietBelow
import Derived.BigQuiet
namespace Go.Proofs.Ytphadofigcipcaa
open Go.RowKit

set_option maxRecDepth 100000 in
set_option maxHeartbeats 8000000 in
theorem walk_FnSlack (a0 : Option Addr) (len0 cap0 : Nat) (z0 : List Int) (w : World) (w0 : IsRowK .u8 w a0 len0 cap0 z0) :
    Calls Try.prog 5 #[.slice a0 len0 cap0] w fun e w' => e = .returned (.bool true) ∧ Below w.heap.size w w' := by
  rcases Nat.lt_or_ge 1048576 len0 with hbig | hsm
  · have hb : (1048576 : Int) < (len0 : Int) := by omega
    go_enter Try.func5, Try.ntmps5
    go_wp2_with fail
    go_ret
    exact ⟨rfl, Below.refl _ _⟩
  have hb : (len0 : Int) ≤ 1048576 := by omega
  have DN := Lib.hid (drawSlack w0 hsm)
  clear w0
  go_enter Try.func5, Try.ntmps5
  go_upto_region 4 with (go_at_call 18; refine DN.out.mono ?_; rintro e u1 ⟨u, v, ms, ns, rfl, m1, m2, hm, hn, b1⟩)
  have M := Lib.hid (fun (X : World) (c : Below u1.heap.size u1 X) => (Rd.below m1 c : Mvs X u ms))
  have N := Lib.hid (fun (X : World) (c : Below u1.heap.size u1 X) => (Rd.below m2 c : Mvs X v ns))
  have C1 := Lib.hid b1
  have U0 := Lib.hid (below_self u1)
  clear m1 m2 b1 DN
  have IE := Lib.hid (fun (X : World) (c : Below u1.heap.size u1 X) => implRegisterSlack (M.out X c) (N.out X c))
  have SE := Lib.hid (fun (X : World) (c : Below u1.heap.size u1 X) => specRegisterSlack (M.out X c) (N.out X c))
  obtain ⟨r, hr⟩ : ∃ r, r = slkO ms ns := ⟨_, rfl⟩
  rw [← hr] at IE SE
  have HRR := Lib.hid hr.symm
  clear hr
  cases r with
  | none =>
    have IE := Lib.hid (fun (X : World) (c : Below u1.heap.size u1 X) => show Calls Try.prog 19 #[u, v] X fun e w' => e = .returned (.tuple #[.int .i64 0, .bool false]) ∧ Below X.heap.size X w' from IE.out X c)
    have SE := Lib.hid (fun (X : World) (c : Below u1.heap.size u1 X) => show Calls Try.prog 20 #[u, v] X fun e w' => e = .returned (.tuple #[.int .i64 0, .bool false]) ∧ Below X.heap.size X w' from SE.out X c)
    go_wp2_with (first
      | (go_at_call 19; refine (IE.out _ U0.out).mono ?_; rintro e u2 ⟨rfl, b2⟩)
      | (go_at_call 20; refine (SE.out _ b2).mono ?_; rintro e u3 ⟨rfl, b3⟩))
    go_ret
    exact ⟨rfl, C1.out.trans ((b2.trans (b3.mono b2.size)).mono C1.out.size)⟩
  | some o =>
  have IE := Lib.hid (fun (X : World) (c : Below u1.heap.size u1 X) => show Calls Try.prog 19 #[u, v] X fun e w' => e = .returned (.tuple #[.int .i64 o, .bool true]) ∧ Below X.heap.size X w' from IE.out X c)
  have SE := Lib.hid (fun (X : World) (c : Below u1.heap.size u1 X) => show Calls Try.prog 20 #[u, v] X fun e w' => e = .returned (.tuple #[.int .i64 o, .bool true]) ∧ Below X.heap.size X w' from SE.out X c)
  have t1 : (o != o) = false := by simp
  go_upto_region 5 with (go_at_call 19; refine (IE.out _ U0.out).mono ?_; rintro e u2 ⟨rfl, b2⟩)
  have B2 := Lib.hid b2
  clear b2
  go_upto_region 6 with (go_at_call 20; refine (SE.out _ B2.out).mono ?_; rintro e u3 ⟨rfl, b3⟩)
  have B3 := Lib.hid (B2.out.trans (b3.mono B2.out.size))
  clear b3
  have FI := slkO_is HRR.out
  have FR := slkO_reg HRR.out
  have K1 := Lib.hid (fun (X : World) (c : Below u1.heap.size u1 X) => show Calls Try.prog 19 #[v, u] X fun e w' => e = .returned (.tuple #[.int .i64 o, .bool true]) ∧ Below X.heap.size X w' from by
    have q := implRegisterSlack (N.out X c) (M.out X c)
    rw [slkO_turn, HRR.out] at q
    exact q)
  have K2 := Lib.hid (fun (X : World) (c : Below u1.heap.size u1 X) => show Calls Try.prog 19 #[u, u] X fun e w' => e = .returned (.tuple #[.int .i64 0, .bool true]) ∧ Below X.heap.size X w' from by
    have q := implRegisterSlack (M.out X c) (M.out X c)
    rw [slkO_self FR.1] at q
    exact q)
  have K3 := Lib.hid (fun (X : World) (c : Below u1.heap.size u1 X) => show Calls Try.prog 15 #[u, v, .int .i64 o] X fun e w' => e = .returned (.tuple #[.int .i64 ((offO ms ns o).getD 0), .bool true]) ∧ Below X.heap.size X w' from by
    have q := implRegisterOffset (M.out X c) (N.out X c) o
    unfold offV at q
    rw [FI.2.2.1] at q
    exact q)
  have K4 := Lib.hid (fun (X : World) (c : Below u1.heap.size u1 X) => show Calls Try.prog 15 #[u, v, .int .i64 (o - 1)] X fun e w' => e = .returned (.tuple #[.int .i64 ((offO ms ns (o - 1)).getD 0), .bool false]) ∧ Below X.heap.size X w' from by
    have q := implRegisterOffset (M.out X c) (N.out X c) (o - 1)
    unfold offV at q
    rw [FI.2.2.2] at q
    exact q)
  have hw1 : IntKind.i64.wrap (o - 1) = o - 1 := IntWalk.i64_in _ (by omega)
  have hw2 : wrap64 (o - 1) = o - 1 := IntWalk.wrap64_in _ (by omega)
  have t2 : (o == o) = true := by simp
  clear FI FR IE SE
  go_upto_region 9 with (go_at_call 19; refine (K1.out _ B3.out).mono ?_; rintro e u4 ⟨rfl, b4⟩)
  have B4 := Lib.hid (B3.out.trans (b4.mono B3.out.size))
  clear b4 t1
  go_upto_region 10 with (go_at_call 19; refine (K2.out _ B4.out).mono ?_; rintro e u5 ⟨rfl, b5⟩)
  have B5 := Lib.hid (B4.out.trans (b5.mono B4.out.size))
  clear b5
  go_upto_region 11 with (go_at_call 15; refine (K3.out _ B5.out).mono ?_; rintro e u6 ⟨rfl, b6⟩)
  have B6 := Lib.hid (B5.out.trans (b6.mono B5.out.size))
  clear b6
  go_wp2_with (go_at_call 15; refine (K4.out _ B6.out).mono ?_; rintro e u7 ⟨rfl, b7⟩; have B7 := Lib.hid (B6.out.trans (b7.mono B6.out.size)); clear b7)
  go_ret
  exact ⟨rfl, C1.out.trans (B7.out.mono C1.out.size)⟩

end Go.Proofs.Ytphadofigcipcaa

namespace Go.Proofs.Ytphadofigcipcaa.fnSlack
open Go.ChangeShapes Go.WideShapes Go.ChangeAt Go.RowKit
open Go.ChangeMaps (open_string shut_string)
set_option linter.unusedVariables false

theorem own : ownKnob Try.prog.godebug = none := by kernel_rfl
theorem laidOut : laidOutB Try.prog = true := by kernel_rfl

set_option maxRecDepth 100000 in
theorem lifted (os : Os) (started : os.Started) (H : Type) (enc : TypeId × Value → H) :
    ReturnsInHanded {} Try.checked os 5 .any (Rows.fnSlackSpec.pre6 enc Try.prog Try.f5 Rows.fnSlackRow.domain false) (Rows.fnSlackSpec.post enc Try.prog Try.f5 false true false false) := by
  refine returnsInHanded_of_change (C := Try.checked) own started (by kernel_rfl) Try.func5
    (ChangeSpec.witness6 (enc := enc) (C := Try.checked) false ⟨#[], #[.slice none 0 0], []⟩ 8 (by kernel_rfl) (by kernel_rfl) (by kernel_rfl) (by kernel_rfl)) ?_
  intro W base args ds gs before hval0 hW hcnd _
  have hval : ∀ (j : Nat) t v, Try.f5.params[j]? = some t → args[j]? = some v → Value.okWide Try.prog W .any base t v := hval0
  have hW' := hW
  obtain ⟨p, q, hA0, hV, rfl, hfz, hnd⟩ := hW
  have hA : DataW.TrodAll enc Try.prog W 0 (fun _ => true) true Try.f5.params.toList args.toList ds p := hA0
  rw [Try.params5] at hA hval
  obtain ⟨v0, vs0, d0, ds0, p0, q0, hargs, rfl, rfl, h0, r0⟩ := trodAll_cons hA
  obtain ⟨rfl, rfl, rfl⟩ := trodAll_nil r0
  obtain rfl : args = #[v0] := by cases args; simp_all
  obtain ⟨rfl, rfl⟩ := trodVars_none hV
  obtain ⟨a0, len0, cap0, rfl⟩ := okWide_slice Try.underlying22 (hval 0 22 v0 rfl rfl)
  have k0 := h0
  have lt0 : ∀ x ∈ p0, x.block < W.heap.size := by obtain ⟨m, hm⟩ := k0; exact DataW.trod_lt m _ _ _ hm
  obtain ⟨z0, w0⟩ : ∃ zs, IsRowK .u8 W a0 len0 cap0 zs := by
    obtain ⟨fuel, hf⟩ := h0
    rcases open_ints Try.underlying22 Try.underlying5 (by kernel_rfl) hf with ⟨hcs, _⟩ | ⟨x, l, c, zs, hcs, _, hl, hm, hz, _, hcell, hwz⟩
    · simp [Value.cells] at hcs
      obtain ⟨rfl, rfl, rfl⟩ := hcs
      exact ⟨[], .inl ⟨rfl, rfl, rfl, rfl⟩⟩
    · simp [Value.cells] at hcs
      obtain ⟨rfl, rfl, rfl⟩ := hcs
      exact ⟨zs, .inr ⟨_, rfl, hl, hm, by simpa using hz, hcell, hwz⟩⟩
  clear hA0 hval0
  refine (walk_FnSlack a0 len0 cap0 z0 W w0).mono fun e W' ⟨he, bel⟩ => ?_
  subst he
  exact ⟨_, rfl, _, _, _, [], _, [], hW', trodAll_mk1 (shut_bool Try.underlying4 _), (trodAll_cons_mk (Below.trod laidOut (by kernel_rfl) (of_decide_eq_true (by kernel_rfl)) k0 bel lt0) trodAll_mk0), rfl, bel.frame _, fun h => by cases h⟩

theorem closed : joinedFacts Try.checked.prog 5 Try.f5 Rows.fnSlackSpec Rows.fnSlackRow = true := by
  unfold joinedFacts
  simp only [Bool.and_eq_true]
  repeat' (refine And.intro ?_ ?_)
  all_goals first
    | with_reducible exact may_enter
    | (rw [lifts_final]; kernel_rfl)
    | (rw [make_is]; kernel_rfl)
    | kernel_rfl

theorem over : Rows.fnSlackRow.holds Try.pinned (OpenSpec.ofChange Rows.fnSlackSpec) :=
  OpenClaim.holds_of_wide 5 Try.f5 rfl rfl rfl rfl rfl rfl rfl ⟨rfl, rfl, rfl, rfl, rfl⟩ rfl rfl rfl rfl rfl (by kernel_rfl) Try.func5 closed
    (of_decide_eq_true (by kernel_rfl)) (by unfold Func.isWrapper; first | (rw [if_pos (by decide +kernel)]; kernel_rfl) | (rw [if_neg (by decide +kernel)]; exact ⟨rfl, rfl⟩))
    (fun os started H enc _ => lifted os started H enc)

theorem proved : Rows.FnSlackSaid := over
#print axioms proved
end Go.Proofs.Ytphadofigcipcaa.fnSlack
