/-
  For every input the law 'FnLateBack' returns true, and each of its arguments reads behind the call as it read before. Conditions: none beyond those of the row.
-/
import Derived.Test.YtphadofigcipcaaRows
import Derived.WalkKit
import Derived.ProofKit
import Derived.OpenShut
import Derived.ShutString
import Derived.ChangeOld
import Derived.Below
import Derived.Deep.Matrix
import Derived.Test.YtphadofigcipcaaIo
import Derived.Test.YtphadofigcipcaaDrawJ
import Derived.Test.YtphadofigcipcaaRegO2
import Derived.Test.YtphadofigcipcaaRegL
import Derived.Lib.QuietBelow
import Derived.BigQuiet
namespace Go.Proofs.Ytphadofigcipcaa
open Go.RowKit

open Go.Sort

set_option maxRecDepth 100000 in
set_option maxHeartbeats 8000000 in
theorem walk_FnLateBack (a0 : Option Addr) (len0 cap0 : Nat) (z0 : List Int) (w : World) (w0 : IsRowK .u8 w a0 len0 cap0 z0) :
    Calls Try.prog 9 #[.slice a0 len0 cap0] w fun e w' => e = .returned (.bool true) ∧ Below w.heap.size w w' := by
  rcases Nat.lt_or_ge 1048576 len0 with hbig | hsm
  · have hb : (1048576 : Int) < (len0 : Int) := by omega
    go_enter Try.func9, Try.ntmps9
    go_wp2_with fail
    go_ret
    exact ⟨rfl, Below.refl _ _⟩
  have hb : (len0 : Int) ≤ 1048576 := by omega
  have DN := Lib.hid (drawLate w0 hsm)
  clear w0
  go_enter Try.func9, Try.ntmps9
  go_upto_region 4 with (go_at_call 37; refine DN.out.mono ?_; rintro e u1 ⟨v, ns, k, rfl, ho, hl, hk, b1⟩)
  have M1 := OwnN.nts ho (by omega)
  have M := Lib.hid (fun (X : World) (c : Below u1.heap.size u1 X) => (Rd.below M1 c : Mvs X v ns))
  have C1 := Lib.hid b1
  have U0 := Lib.hid (below_self u1)
  clear ho b1 M1 DN
  have IE := Lib.hid (fun (X : World) (c : Below u1.heap.size u1 X) => implRegisterLate (M.out X c) k)
  have SE := Lib.hid (fun (X : World) (c : Below u1.heap.size u1 X) => specRegisterLate (M.out X c) hk)
  have FB := Lib.hid (fun (q : latB ns k = true) => lat_back q hk)
  have FO := Lib.hid (fun (q : latB ns k = true) (q2 : -2000 ≤ k ∧ k ≤ 2000) (q3 : 0 < ns.length) => off_back q q2 q3)
  have LL := Lib.hid (latV_len ns k)
  obtain ⟨ls, hls⟩ : ∃ x, x = latV ns k := ⟨_, rfl⟩
  rw [← hls] at IE SE FB FO LL
  obtain ⟨p, hp⟩ : ∃ x, x = latB ns k := ⟨_, rfl⟩
  rw [← hp] at IE SE FB FO
  clear hls hp
  obtain ⟨nk, hnk⟩ : ∃ x, x = wrap64 (-k) := ⟨_, rfl⟩
  rw [← hnk] at FB
  have hw1 : wrap64 (-k) = nk := hnk.symm
  have hw2 : IntKind.i64.wrap (-k) = nk := (IntWalk.i64_left _).trans hnk.symm
  clear hnk
  go_upto_region 5 with (go_at_call 17; refine (IE.out _ U0.out).mono ?_; rintro e u2 ⟨v2, rfl, o2, b2⟩)
  have B2 := Lib.hid b2
  have N2 := OwnN.nts o2 LL.out
  have L2 := Lib.hid (fun (X : World) (c : Below u2.heap.size u2 X) => (Rd.below N2 c : Mvs X v2 ls))
  clear b2 o2 N2
  go_upto_region 6 with (go_at_call 38; refine (SE.out _ B2.out).mono ?_; rintro e u3 ⟨v3, rfl, o3, b3⟩)
  have B3 := Lib.hid (B2.out.trans (b3.mono B2.out.size))
  have D3 := Lib.hid b3
  have N3 := OwnN.nts o3 LL.out
  have SM := Lib.hid (fun (X : World) (c : Below u3.heap.size u3 X) => sameNotesS (L2.out X (D3.out.trans (c.mono D3.out.size))) (Rd.below N3 c))
  clear b3 o3 N3
  cases p
  · clear FB FO
    go_wp2_with (first
      | (go_at_call 24; refine (SM.out _ (below_self _)).mono ?_; rintro e u4 ⟨rfl, b4⟩; clear IE)
      | (go_at_call 24; refine (SM.out _ b4).mono ?_; rintro e u5 ⟨rfl, b5⟩))
    go_ret
    exact ⟨rfl, C1.out.trans ((B3.out.trans ((b4.trans (b5.mono b4.size)).mono B3.out.size)).mono C1.out.size)⟩
  obtain ⟨F1, F2, F3, F4⟩ := FB.out rfl
  have FO2 := Lib.hid (fun q2 q3 => FO.out rfl q2 q3)
  have HF4 := Lib.hid F4
  have BK := Lib.hid (fun (X : World) (c : Below u2.heap.size u2 X) => show Calls Try.prog 17 #[v2, .int .i64 nk] X (MadeNtsB X ns true) from by
    have q := implRegisterLate (L2.out X c) nk
    rw [F1, F2] at q
    exact q)
  have TX1 := Lib.hid (fun (X : World) (c : Below u2.heap.size u2 X) => show Calls Try.prog 32 #[v2] X fun e w' => e = .returned (.string (regT ns)) ∧ Below X.heap.size X w' from by
    have q := implRegisterText (L2.out X c)
    rw [F3] at q
    exact q)
  have TX2 := Lib.hid (fun (X : World) (c : Below u1.heap.size u1 X) => implRegisterText (M.out X c))
  obtain ⟨tx, htx⟩ : ∃ x, x = regT ns := ⟨_, rfl⟩
  rw [← htx] at TX1 TX2
  have OF := Lib.hid (fun (X : World) (c : Below u2.heap.size u2 X) => implRegisterOffset (M.out X (B2.out.trans (c.mono B2.out.size))) (L2.out X c) 0)
  obtain ⟨rx, hrx⟩ : ∃ x, x = offO ns ls 0 := ⟨_, rfl⟩
  rw [← hrx] at OF FO2
  obtain ⟨y, hy⟩ : ∃ x, x = rx.getD 0 := ⟨_, rfl⟩
  obtain ⟨qq, hqq⟩ : ∃ x, x = rx.isSome := ⟨_, rfl⟩
  have OF := Lib.hid (fun (X : World) (c : Below u2.heap.size u2 X) => show Calls Try.prog 15 #[v, v2, .int .i64 0] X fun e w' => e = .returned (.tuple #[.int .i64 y, .bool qq]) ∧ Below X.heap.size X w' from by
    rw [hy, hqq]; exact OF.out X c)
  have OK := Lib.hid (show ns.length = 0 ∨ ((-30 ≤ k ∧ k ≤ 30) ∧ qq = true ∧ y = k) ∨ ((k < -30 ∨ 30 < k) ∧ qq = false) from by
    rcases HF4.out with c | c
    · exact .inl c
    · rcases Nat.eq_zero_or_pos ns.length with c0 | c0
      · exact .inl c0
      · obtain ⟨a, b⟩ := FO2.out c c0
        rcases (by omega : (-30 ≤ k ∧ k ≤ 30) ∨ (k < -30 ∨ 30 < k)) with d | d
        · have := a d; rw [this] at hy hqq; exact .inr (.inl ⟨d, hqq, hy⟩)
        · have := b d; rw [this] at hqq; exact .inr (.inr ⟨d, hqq⟩))
  clear F1 F2 F3 F4 htx hrx hy hqq FB FO FO2 IE SE HF4 LL
  obtain ⟨av, cv, hv⟩ : ∃ a c, v = .slice a ns.length c := by obtain ⟨a, c, e, -⟩ := M.out _ U0.out; exact ⟨a, c, e⟩
  subst hv
  have HK := Lib.hid hk
  clear hk
  go_upto_region 8 with (go_at_call 24; refine (SM.out _ (below_self _)).mono ?_; rintro e u4 ⟨rfl, b4⟩)
  have D4 := Lib.hid (D3.out.trans (b4.mono D3.out.size))
  clear b4 SM D3 B3
  go_upto_region 9 with (go_at_call 17; refine (BK.out _ D4.out).mono ?_; rintro e u5 ⟨v5, rfl, o5, b5⟩)
  have D5 := Lib.hid (D4.out.trans (b5.mono D4.out.size))
  have N5 := OwnN.nts o5 (by omega)
  have L5 := Lib.hid (fun (X : World) (c : Below u5.heap.size u5 X) => (Rd.below N5 c : Mvs X v5 ns))
  clear b5 o5 N5 BK D4 hw1 hw2
  go_upto_region 10 with (go_at_call 15; refine (OF.out _ D5.out).mono ?_; rintro e u6 ⟨rfl, b6⟩)
  have D6 := Lib.hid (D5.out.trans (b6.mono D5.out.size))
  have BX := Lib.hid (B2.out.trans (D6.out.mono B2.out.size))
  have BZ := Lib.hid (C1.out.trans (BX.out.mono C1.out.size))
  have S5 := Lib.hid b6
  clear b6 OF D5
  have R1 := Lib.hid (fun (X : World) (c : Below u6.heap.size u6 X) => sameNotesS (L5.out _ (S5.out.trans (c.mono S5.out.size))) (M.out _ (BX.out.trans (c.mono BX.out.size))))
  have R2 := Lib.hid (fun (X : World) (c : Below u6.heap.size u6 X) => TX1.out _ (D6.out.trans (c.mono D6.out.size)))
  have R3 := Lib.hid (fun (X : World) (c : Below u6.heap.size u6 X) => TX2.out _ (BX.out.trans (c.mono BX.out.size)))
  have hnl : (ns.length : Int) ≤ 33 := by omega
  clear TX1 TX2 L5 M L2 B2 D6 S5 hl
  rcases OK.out with h0 | ⟨hr, rfl, rfl⟩ | ⟨hr, rfl⟩
  · have t0 : ((ns.length : Int) == 0) = true := by rw [h0]; rfl
    clear h0 hnl
    rcases (by omega : k < -30 ∨ (-30 ≤ k ∧ k ≤ 30) ∨ 30 < k) with hr | hr | hr
    · have e1 : decide (-30 ≤ k) = false := decide_eq_false (by omega)
      clear hr OK
      go_wp2_with (first
        | (go_at_call 24; refine (R1.out _ (below_self _)).mono ?_; rintro e w7 ⟨rfl, b7⟩; have d7 := b7)
        | (go_at_call 32; refine (R2.out _ d7).mono ?_; rintro e w8 ⟨rfl, b8⟩; have d8 := d7.trans (b8.mono d7.size); clear d7)
        | (go_at_call 32; refine (R3.out _ d8).mono ?_; rintro e w9 ⟨rfl, b9⟩; have d9 := d8.trans (b9.mono d8.size)))
      go_ret
      exact ⟨rfl, BZ.out.trans (d9.mono BZ.out.size)⟩
    · have e1 : decide (-30 ≤ k) = true := decide_eq_true (by omega)
      have e2 : decide (k ≤ 30) = true := decide_eq_true (by omega)
      clear hr OK
      go_wp2_with (first
        | (go_at_call 24; refine (R1.out _ (below_self _)).mono ?_; rintro e w7 ⟨rfl, b7⟩; have d7 := b7)
        | (go_at_call 32; refine (R2.out _ d7).mono ?_; rintro e w8 ⟨rfl, b8⟩; have d8 := d7.trans (b8.mono d7.size); clear d7)
        | (go_at_call 32; refine (R3.out _ d8).mono ?_; rintro e w9 ⟨rfl, b9⟩; have d9 := d8.trans (b9.mono d8.size)))
      go_ret
      exact ⟨rfl, BZ.out.trans (d9.mono BZ.out.size)⟩
    · have e1 : decide (-30 ≤ k) = true := decide_eq_true (by omega)
      have e2 : decide (k ≤ 30) = false := decide_eq_false (by omega)
      clear hr OK
      go_wp2_with (first
        | (go_at_call 24; refine (R1.out _ (below_self _)).mono ?_; rintro e w7 ⟨rfl, b7⟩; have d7 := b7)
        | (go_at_call 32; refine (R2.out _ d7).mono ?_; rintro e w8 ⟨rfl, b8⟩; have d8 := d7.trans (b8.mono d7.size); clear d7)
        | (go_at_call 32; refine (R3.out _ d8).mono ?_; rintro e w9 ⟨rfl, b9⟩; have d9 := d8.trans (b9.mono d8.size)))
      go_ret
      exact ⟨rfl, BZ.out.trans (d9.mono BZ.out.size)⟩
  · rcases Nat.eq_zero_or_pos ns.length with h0 | h0
    · have t0 : ((ns.length : Int) == 0) = true := by rw [h0]; rfl
      have e1 : decide (-30 ≤ y) = true := decide_eq_true (by omega)
      have e2 : decide (y ≤ 30) = true := decide_eq_true (by omega)
      clear hr OK h0 hnl
      go_wp2_with (first
        | (go_at_call 24; refine (R1.out _ (below_self _)).mono ?_; rintro e w7 ⟨rfl, b7⟩; have d7 := b7)
        | (go_at_call 32; refine (R2.out _ d7).mono ?_; rintro e w8 ⟨rfl, b8⟩; have d8 := d7.trans (b8.mono d7.size); clear d7)
        | (go_at_call 32; refine (R3.out _ d8).mono ?_; rintro e w9 ⟨rfl, b9⟩; have d9 := d8.trans (b9.mono d8.size)))
      go_ret
      exact ⟨rfl, BZ.out.trans (d9.mono BZ.out.size)⟩
    · have t0 : ((ns.length : Int) == 0) = false := beq_eq_false_iff_ne.2 (by omega)
      have ey : (y == y) = true := by simp
      have e1 : decide (-30 ≤ y) = true := decide_eq_true (by omega)
      have e2 : decide (y ≤ 30) = true := decide_eq_true (by omega)
      clear hr OK h0 hnl
      go_wp2_with (first
        | (go_at_call 24; refine (R1.out _ (below_self _)).mono ?_; rintro e w7 ⟨rfl, b7⟩; have d7 := b7)
        | (go_at_call 32; refine (R2.out _ d7).mono ?_; rintro e w8 ⟨rfl, b8⟩; have d8 := d7.trans (b8.mono d7.size); clear d7)
        | (go_at_call 32; refine (R3.out _ d8).mono ?_; rintro e w9 ⟨rfl, b9⟩; have d9 := d8.trans (b9.mono d8.size)))
      go_ret
      exact ⟨rfl, BZ.out.trans (d9.mono BZ.out.size)⟩
  · rcases hr with hr | hr
    · rcases Nat.eq_zero_or_pos ns.length with h0 | h0
      · have t0 : ((ns.length : Int) == 0) = true := by rw [h0]; rfl
        have e1 : decide (-30 ≤ k) = false := decide_eq_false (by omega)
        clear hr OK h0 hnl
        go_wp2_with (first
          | (go_at_call 24; refine (R1.out _ (below_self _)).mono ?_; rintro e w7 ⟨rfl, b7⟩; have d7 := b7)
          | (go_at_call 32; refine (R2.out _ d7).mono ?_; rintro e w8 ⟨rfl, b8⟩; have d8 := d7.trans (b8.mono d7.size); clear d7)
          | (go_at_call 32; refine (R3.out _ d8).mono ?_; rintro e w9 ⟨rfl, b9⟩; have d9 := d8.trans (b9.mono d8.size)))
        go_ret
        exact ⟨rfl, BZ.out.trans (d9.mono BZ.out.size)⟩
      · have t0 : ((ns.length : Int) == 0) = false := beq_eq_false_iff_ne.2 (by omega)
        have e1 : decide (-30 ≤ k) = false := decide_eq_false (by omega)
        clear hr OK h0 hnl
        go_wp2_with (first
          | (go_at_call 24; refine (R1.out _ (below_self _)).mono ?_; rintro e w7 ⟨rfl, b7⟩; have d7 := b7)
          | (go_at_call 32; refine (R2.out _ d7).mono ?_; rintro e w8 ⟨rfl, b8⟩; have d8 := d7.trans (b8.mono d7.size); clear d7)
          | (go_at_call 32; refine (R3.out _ d8).mono ?_; rintro e w9 ⟨rfl, b9⟩; have d9 := d8.trans (b9.mono d8.size)))
        go_ret
        exact ⟨rfl, BZ.out.trans (d9.mono BZ.out.size)⟩
    · rcases Nat.eq_zero_or_pos ns.length with h0 | h0
      · have t0 : ((ns.length : Int) == 0) = true := by rw [h0]; rfl
        have e1 : decide (-30 ≤ k) = true := decide_eq_true (by omega)
        have e2 : decide (k ≤ 30) = false := decide_eq_false (by omega)
        clear hr OK h0 hnl
        go_wp2_with (first
          | (go_at_call 24; refine (R1.out _ (below_self _)).mono ?_; rintro e w7 ⟨rfl, b7⟩; have d7 := b7)
          | (go_at_call 32; refine (R2.out _ d7).mono ?_; rintro e w8 ⟨rfl, b8⟩; have d8 := d7.trans (b8.mono d7.size); clear d7)
          | (go_at_call 32; refine (R3.out _ d8).mono ?_; rintro e w9 ⟨rfl, b9⟩; have d9 := d8.trans (b9.mono d8.size)))
        go_ret
        exact ⟨rfl, BZ.out.trans (d9.mono BZ.out.size)⟩
      · have t0 : ((ns.length : Int) == 0) = false := beq_eq_false_iff_ne.2 (by omega)
        have e1 : decide (-30 ≤ k) = true := decide_eq_true (by omega)
        have e2 : decide (k ≤ 30) = false := decide_eq_false (by omega)
        clear hr OK h0 hnl
        go_wp2_with (first
          | (go_at_call 24; refine (R1.out _ (below_self _)).mono ?_; rintro e w7 ⟨rfl, b7⟩; have d7 := b7)
          | (go_at_call 32; refine (R2.out _ d7).mono ?_; rintro e w8 ⟨rfl, b8⟩; have d8 := d7.trans (b8.mono d7.size); clear d7)
          | (go_at_call 32; refine (R3.out _ d8).mono ?_; rintro e w9 ⟨rfl, b9⟩; have d9 := d8.trans (b9.mono d8.size)))
        go_ret
        exact ⟨rfl, BZ.out.trans (d9.mono BZ.out.size)⟩

end Go.Proofs.Ytphadofigcipcaa

namespace Go.Proofs.Ytphadofigcipcaa.fnLateBack
open Go.ChangeShapes Go.WideShapes Go.ChangeAt Go.RowKit
open Go.ChangeMaps (open_string shut_string)
set_option linter.unusedVariables false

theorem own : ownKnob Try.prog.godebug = none := by kernel_rfl
theorem laidOut : laidOutB Try.prog = true := by kernel_rfl

set_option maxRecDepth 100000 in
theorem lifted (os : Os) (started : os.Started) (H : Type) (enc : TypeId × Value → H) :
    ReturnsInHanded {} Try.checked os 9 .any (Rows.fnLateBackSpec.pre6 enc Try.prog Try.f9 Rows.fnLateBackRow.domain false) (Rows.fnLateBackSpec.post enc Try.prog Try.f9 false true false false) := by
  refine returnsInHanded_of_change (C := Try.checked) own started (by kernel_rfl) Try.func9
    (ChangeSpec.witness6 (enc := enc) (C := Try.checked) false ⟨#[], #[.slice none 0 0], []⟩ 8 (by kernel_rfl) (by kernel_rfl) (by kernel_rfl) (by kernel_rfl)) ?_
  intro W base args ds gs before hval0 hW hcnd _
  have hval : ∀ (j : Nat) t v, Try.f9.params[j]? = some t → args[j]? = some v → Value.okWide Try.prog W .any base t v := hval0
  have hW' := hW
  obtain ⟨p, q, hA0, hV, rfl, hfz, hnd⟩ := hW
  have hA : DataW.TrodAll enc Try.prog W 0 (fun _ => true) true Try.f9.params.toList args.toList ds p := hA0
  rw [Try.params9] at hA hval
  obtain ⟨v0, vs0, d0, ds0, p0, q0, hargs, rfl, rfl, h0, r0⟩ := trodAll_cons hA
  obtain ⟨rfl, rfl, rfl⟩ := trodAll_nil r0
  obtain rfl : args = #[v0] := by cases args; simp_all
  obtain ⟨rfl, rfl⟩ := trodVars_none hV
  obtain ⟨a0, len0, cap0, rfl⟩ := okWide_slice Try.underlying22 (hval 0 22 v0 rfl rfl)
  have k0 := h0
  have lt0 : ∀ x ∈ p0, x.block < W.heap.size := by obtain ⟨m, hm⟩ := k0; exact DataW.trod_lt m _ _ _ hm
  obtain ⟨z0, w0⟩ : ∃ zs, IsRowK .u8 W a0 len0 cap0 zs := by
    obtain ⟨fuel, hf⟩ := h0
    rcases open_ints Try.underlying22 Try.underlying5 (by kernel_rfl) hf with ⟨hcs, _⟩ | ⟨x, l, c, zs, hcs, _, hl, hm, hz, _, hcell, hwz⟩
    · simp [Value.cells] at hcs
      obtain ⟨rfl, rfl, rfl⟩ := hcs
      exact ⟨[], .inl ⟨rfl, rfl, rfl, rfl⟩⟩
    · simp [Value.cells] at hcs
      obtain ⟨rfl, rfl, rfl⟩ := hcs
      exact ⟨zs, .inr ⟨_, rfl, hl, hm, by simpa using hz, hcell, hwz⟩⟩
  clear hA0 hval0
  refine (walk_FnLateBack a0 len0 cap0 z0 W w0).mono fun e W' ⟨he, bel⟩ => ?_
  subst he
  exact ⟨_, rfl, _, _, _, [], _, [], hW', trodAll_mk1 (shut_bool Try.underlying4 _), (trodAll_cons_mk (Below.trod laidOut (by kernel_rfl) (of_decide_eq_true (by kernel_rfl)) k0 bel lt0) trodAll_mk0), rfl, bel.frame _, fun h => by cases h⟩

theorem closed : joinedFacts Try.checked.prog 9 Try.f9 Rows.fnLateBackSpec Rows.fnLateBackRow = true := by
  unfold joinedFacts
  simp only [Bool.and_eq_true]
  repeat' (refine And.intro ?_ ?_)
  all_goals first
    | with_reducible exact may_enter
    | (rw [lifts_final]; kernel_rfl)
    | (rw [make_is]; kernel_rfl)
    | kernel_rfl

theorem over : Rows.fnLateBackRow.holds Try.pinned (OpenSpec.ofChange Rows.fnLateBackSpec) :=
  OpenClaim.holds_of_wide 9 Try.f9 rfl rfl rfl rfl rfl rfl rfl ⟨rfl, rfl, rfl, rfl, rfl⟩ rfl rfl rfl rfl rfl (by kernel_rfl) Try.func9 closed
    (of_decide_eq_true (by kernel_rfl)) (by unfold Func.isWrapper; first | (rw [if_pos (by decide +kernel)]; kernel_rfl) | (rw [if_neg (by decide +kernel)]; exact ⟨rfl, rfl⟩))
    (fun os started H enc _ => lifted os started H enc)

theorem proved : Rows.FnLateBackSaid := over
#print axioms proved
end Go.Proofs.Ytphadofigcipcaa.fnLateBack
