/-
  For every input the law 'FnOffsetLate' returns true, and each of its arguments reads behind the call as it read before. Conditions: none beyond those of the row.
-/
import Derived.Test.YtphadofigcipcaaRows
import Derived.WalkKit
import Derived.ProofKit
import Derived.OpenShut
import Derived.ShutString
import Derived.ChangeOld
import Derived.Below
import Derived.Deep.Matrix
import Derived.Test.YtphadofigcipcaaIo
import Derived.Test.YtphadofigcipcaaDrawI
import Derived.Test.YtphadofigcipcaaRegW
import Derived.Test.YtphadofigcipcaaRegO2
import Derived.Test.YtphadofigcipcaaRegL
import Derived.Lib.QuietBelow
import Derived.BigQuiet
namespace Go.Proofs.Ytphadofigcipcaa
open Go.RowKit

set_option maxRecDepth 100000 in
set_option maxHeartbeats 8000000 in
theorem walk_FnOffsetLate (a0 : Option Addr) (len0 cap0 : Nat) (z0 : List Int) (w : World) (w0 : IsRowK .u8 w a0 len0 cap0 z0) :
    Calls Try.prog 4 #[.slice a0 len0 cap0] w fun e w' => e = .returned (.bool true) ∧ Below w.heap.size w w' := by
  rcases Nat.lt_or_ge 1048576 len0 with hbig | hsm
  · have hb : (1048576 : Int) < (len0 : Int) := by omega
    go_enter Try.func4, Try.ntmps4
    go_wp2_with fail
    go_ret
    exact ⟨rfl, Below.refl _ _⟩
  have hb : (len0 : Int) ≤ 1048576 := by omega
  have DN := Lib.hid (drawOffset w0 hsm)
  clear w0
  go_enter Try.func4, Try.ntmps4
  go_upto_region 4 with (go_at_call 14; refine DN.out.mono ?_; rintro e u1 ⟨u, v, ms, ns, sl, rfl, m1, m2, hm, hn, hs0, hs1, b1⟩)
  have M := Lib.hid (fun (X : World) (c : Below u1.heap.size u1 X) => (Rd.below m1 c : Mvs X u ms))
  have N := Lib.hid (fun (X : World) (c : Below u1.heap.size u1 X) => (Rd.below m2 c : Mvs X v ns))
  have C1 := Lib.hid b1
  have U0 := Lib.hid (below_self u1)
  clear m1 m2 b1 DN
  have IE := Lib.hid (fun (X : World) (c : Below u1.heap.size u1 X) => implRegisterOffset (M.out X c) (N.out X c) sl)
  have SE := Lib.hid (fun (X : World) (c : Below u1.heap.size u1 X) => specRegisterOffset (M.out X c) (N.out X c) sl)
  obtain ⟨r, hr⟩ : ∃ r, r = offO ms ns sl := ⟨_, rfl⟩
  rw [← hr] at IE SE
  have HRR := Lib.hid hr.symm
  clear hr
  cases r with
  | none =>
    have IE := Lib.hid (fun (X : World) (c : Below u1.heap.size u1 X) => show Calls Try.prog 15 #[u, v, .int .i64 sl] X fun e w' => e = .returned (.tuple #[.int .i64 0, .bool false]) ∧ Below X.heap.size X w' from IE.out X c)
    have SE := Lib.hid (fun (X : World) (c : Below u1.heap.size u1 X) => show Calls Try.prog 16 #[u, v, .int .i64 sl] X fun e w' => e = .returned (.tuple #[.int .i64 0, .bool false]) ∧ Below X.heap.size X w' from SE.out X c)
    go_wp2_with (first
      | (go_at_call 15; refine (IE.out _ U0.out).mono ?_; rintro e u2 ⟨rfl, b2⟩)
      | (go_at_call 16; refine (SE.out _ b2).mono ?_; rintro e u3 ⟨rfl, b3⟩))
    go_ret
    exact ⟨rfl, C1.out.trans ((b2.trans (b3.mono b2.size)).mono C1.out.size)⟩
  | some o =>
  have IE := Lib.hid (fun (X : World) (c : Below u1.heap.size u1 X) => show Calls Try.prog 15 #[u, v, .int .i64 sl] X fun e w' => e = .returned (.tuple #[.int .i64 o, .bool true]) ∧ Below X.heap.size X w' from IE.out X c)
  have SE := Lib.hid (fun (X : World) (c : Below u1.heap.size u1 X) => show Calls Try.prog 16 #[u, v, .int .i64 sl] X fun e w' => e = .returned (.tuple #[.int .i64 o, .bool true]) ∧ Below X.heap.size X w' from SE.out X c)
  have t1 : (o != o) = false := by simp
  go_upto_region 5 with (go_at_call 15; refine (IE.out _ U0.out).mono ?_; rintro e u2 ⟨rfl, b2⟩)
  have B2 := Lib.hid b2
  clear b2
  go_upto_region 6 with (go_at_call 16; refine (SE.out _ B2.out).mono ?_; rintro e u3 ⟨rfl, b3⟩)
  have B3 := Lib.hid (B2.out.trans (b3.mono B2.out.size))
  clear b3
  obtain ⟨F1, F2, F3, F4, F5, F6, F7, F8, F9, F10, F11⟩ := offO_facts HRR.out
  have HL := Lib.hid F4
  have HOB := Lib.hid (And.intro F9 F10)
  have TL := Lib.hid (fun (X : World) (c : Below u1.heap.size u1 X) => implRegisterLate (N.out X c) 3)
  have FL := Lib.hid (fun (q : latB ns 3 = true) (q2 : o ≠ -30) => offO_late HRR.out q q2)
  obtain ⟨p, hp⟩ : ∃ p, p = latB ns 3 := ⟨_, rfl⟩
  rw [← hp] at TL FL
  have hu : ∃ a c, u = .slice a ms.length c := by obtain ⟨a, c, e, -⟩ := M.out _ U0.out; exact ⟨a, c, e⟩
  have hv : ∃ a c, v = .slice a ns.length c := by obtain ⟨a, c, e, -⟩ := N.out _ U0.out; exact ⟨a, c, e⟩
  obtain ⟨au, cu, rfl⟩ := hu
  obtain ⟨av, cv, rfl⟩ := hv
  have e2 : ((ms.length : Int) == (ns.length : Int)) = true := by rw [HL.out]; simp
  clear F1 F2 F3 F4 F5 F6 F7 F8 F9 F10 F11 hp IE SE
  go_upto_region 9 with (go_at_call 17; refine (TL.out _ B3.out).mono ?_; rintro e u4 ⟨vl, rfl, ol, b4⟩)
  have B4 := Lib.hid (B3.out.trans (b4.mono B3.out.size))
  have LM := OwnN.nts ol (latV_len ns 3)
  have TO := Lib.hid (implRegisterOffset (M.out _ B4.out) LM sl)
  obtain ⟨rx, hrx⟩ : ∃ rx, rx = offO ms (latV ns 3) sl := ⟨_, rfl⟩
  rw [← hrx] at TO FL
  have TO := Lib.hid (show Calls Try.prog 15 #[.slice au ms.length cu, vl, .int .i64 sl] u4 fun e w' => e = .returned (.tuple #[.int .i64 (rx.getD 0), .bool rx.isSome]) ∧ Below u4.heap.size u4 w' from TO.out)
  clear b4 ol LM hrx t1
  go_upto_region 10 with (go_at_call 15; refine TO.out.mono ?_; rintro e u5 ⟨rfl, b5⟩)
  have B5 := Lib.hid (B4.out.trans (b5.mono B4.out.size))
  have BZ := Lib.hid (C1.out.trans (B5.out.mono C1.out.size))
  clear b5
  cases p
  · clear FL
    go_wp2_with fail
    go_ret
    exact ⟨rfl, BZ.out⟩
  rcases Nat.eq_zero_or_pos ms.length with h0 | h0
  · have t0 : ((ms.length : Int) == 0) = true := by rw [h0]; rfl
    clear h0 FL
    go_wp2_with fail
    go_ret
    exact ⟨rfl, BZ.out⟩
  have t0 : ((ms.length : Int) == 0) = false := beq_eq_false_iff_ne.2 (by omega)
  clear h0
  by_cases h30 : o = -30
  · have t3 : (o == -30) = true := by simp [h30]
    clear h30 FL
    go_wp2_with fail
    go_ret
    exact ⟨rfl, BZ.out⟩
  have t3 : (o == -30) = false := by simp [h30]
  have FF := FL.out rfl h30
  have hob := HOB.out
  have hw1 : wrap64 (o + 3) = o + 3 := IntWalk.wrap64_in _ (by omega)
  have hw2 : IntKind.i64.wrap (o + 3) = o + 3 := IntWalk.i64_in _ (by omega)
  clear h30 FL hob
  rcases FF with ⟨g1, g2⟩ | ⟨g1, g2⟩
  · subst g2
    have t4 : (o + 3 == o + 3) = true := by simp
    clear g1
    go_wp2_with fail
    go_ret
    exact ⟨rfl, BZ.out⟩
  · subst g2
    have t4 : decide (30 < o + 3) = true := decide_eq_true g1
    clear g1
    go_wp2_with fail
    go_ret
    exact ⟨rfl, BZ.out⟩

end Go.Proofs.Ytphadofigcipcaa

namespace Go.Proofs.Ytphadofigcipcaa.fnOffsetLate
open Go.ChangeShapes Go.WideShapes Go.ChangeAt Go.RowKit
open Go.ChangeMaps (open_string shut_string)
set_option linter.unusedVariables false

theorem own : ownKnob Try.prog.godebug = none := by kernel_rfl
theorem laidOut : laidOutB Try.prog = true := by kernel_rfl

set_option maxRecDepth 100000 in
theorem lifted (os : Os) (started : os.Started) (H : Type) (enc : TypeId × Value → H) :
    ReturnsInHanded {} Try.checked os 4 .any (Rows.fnOffsetLateSpec.pre6 enc Try.prog Try.f4 Rows.fnOffsetLateRow.domain false) (Rows.fnOffsetLateSpec.post enc Try.prog Try.f4 false true false false) := by
  refine returnsInHanded_of_change (C := Try.checked) own started (by kernel_rfl) Try.func4
    (ChangeSpec.witness6 (enc := enc) (C := Try.checked) false ⟨#[], #[.slice none 0 0], []⟩ 8 (by kernel_rfl) (by kernel_rfl) (by kernel_rfl) (by kernel_rfl)) ?_
  intro W base args ds gs before hval0 hW hcnd _
  have hval : ∀ (j : Nat) t v, Try.f4.params[j]? = some t → args[j]? = some v → Value.okWide Try.prog W .any base t v := hval0
  have hW' := hW
  obtain ⟨p, q, hA0, hV, rfl, hfz, hnd⟩ := hW
  have hA : DataW.TrodAll enc Try.prog W 0 (fun _ => true) true Try.f4.params.toList args.toList ds p := hA0
  rw [Try.params4] at hA hval
  obtain ⟨v0, vs0, d0, ds0, p0, q0, hargs, rfl, rfl, h0, r0⟩ := trodAll_cons hA
  obtain ⟨rfl, rfl, rfl⟩ := trodAll_nil r0
  obtain rfl : args = #[v0] := by cases args; simp_all
  obtain ⟨rfl, rfl⟩ := trodVars_none hV
  obtain ⟨a0, len0, cap0, rfl⟩ := okWide_slice Try.underlying22 (hval 0 22 v0 rfl rfl)
  have k0 := h0
  have lt0 : ∀ x ∈ p0, x.block < W.heap.size := by obtain ⟨m, hm⟩ := k0; exact DataW.trod_lt m _ _ _ hm
  obtain ⟨z0, w0⟩ : ∃ zs, IsRowK .u8 W a0 len0 cap0 zs := by
    obtain ⟨fuel, hf⟩ := h0
    rcases open_ints Try.underlying22 Try.underlying5 (by kernel_rfl) hf with ⟨hcs, _⟩ | ⟨x, l, c, zs, hcs, _, hl, hm, hz, _, hcell, hwz⟩
    · simp [Value.cells] at hcs
      obtain ⟨rfl, rfl, rfl⟩ := hcs
      exact ⟨[], .inl ⟨rfl, rfl, rfl, rfl⟩⟩
    · simp [Value.cells] at hcs
      obtain ⟨rfl, rfl, rfl⟩ := hcs
      exact ⟨zs, .inr ⟨_, rfl, hl, hm, by simpa using hz, hcell, hwz⟩⟩
  clear hA0 hval0
  refine (walk_FnOffsetLate a0 len0 cap0 z0 W w0).mono fun e W' ⟨he, bel⟩ => ?_
  subst he
  exact ⟨_, rfl, _, _, _, [], _, [], hW', trodAll_mk1 (shut_bool Try.underlying4 _), (trodAll_cons_mk (Below.trod laidOut (by kernel_rfl) (of_decide_eq_true (by kernel_rfl)) k0 bel lt0) trodAll_mk0), rfl, bel.frame _, fun h => by cases h⟩

theorem closed : joinedFacts Try.checked.prog 4 Try.f4 Rows.fnOffsetLateSpec Rows.fnOffsetLateRow = true := by
  unfold joinedFacts
  simp only [Bool.and_eq_true]
  repeat' (refine And.intro ?_ ?_)
  all_goals first
    | with_reducible exact may_enter
    | (rw [lifts_final]; kernel_rfl)
    | (rw [make_is]; kernel_rfl)
    | kernel_rfl

theorem over : Rows.fnOffsetLateRow.holds Try.pinned (OpenSpec.ofChange Rows.fnOffsetLateSpec) :=
  OpenClaim.holds_of_wide 4 Try.f4 rfl rfl rfl rfl rfl rfl rfl ⟨rfl, rfl, rfl, rfl, rfl⟩ rfl rfl rfl rfl rfl (by kernel_rfl) Try.func4 closed
    (of_decide_eq_true (by kernel_rfl)) (by unfold Func.isWrapper; first | (rw [if_pos (by decide +kernel)]; kernel_rfl) | (rw [if_neg (by decide +kernel)]; exact ⟨rfl, rfl⟩))
    (fun os started H enc _ => lifted os started H enc)

theorem proved : Rows.FnOffsetLateSaid := over
#print axioms proved
end Go.Proofs.Ytphadofigcipcaa.fnOffsetLate
