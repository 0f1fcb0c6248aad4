/-
  For every input the law 'FnStaffRun' returns true, and each of its arguments reads behind the call as it read before. Conditions: none beyond those of the row.
-/
import Derived.Test.YthjodagbgmpbhaaGreatDoorRows
import Derived.WalkKit
import Derived.ProofKit
import Derived.OpenShut
import Derived.ShutString
import Derived.ChangeOld
import Derived.Below
import Derived.Deep.Matrix
import Derived.Test.YthjodagbgmpbhaaGreatDoorIo
import Derived.LaidMore
import Derived.Lay
import Derived.SevenTiedAt
import Derived.Stop.Joined
import Derived.Test.YthjodagbgmpbhaaGreatDoorCards
import Derived.Test.YthjodagbgmpbhaaGreatDoorTie
import Derived.Test.YthjodagbgmpbhaaGreatDoorShp
import Derived.Test.YthjodagbgmpbhaaGreatDoorDirL
import Derived.Test.YthjodagbgmpbhaaGreatDoorDrawSr
import Derived.Lib.QuietBelow
import Derived.BigQuiet
namespace Go.Proofs.YthjodagbgmpbhaaGreatDoor
open Go.RowKit

open Go.Sort

theorem countOfB (S : ByteArray) (hS : S.size ≤ 1048576) (c : Int) (w : World) :
    Calls Tryz.prog 13 #[.string S, .int .u8 c] w fun e w' => e = .returned (.int .i64 (cntTo S c S.size)) ∧ Below w.heap.size w w' := by
  refine (countOf S hS c w).mono ?_
  rintro e w' ⟨rfl, rfl⟩
  exact ⟨rfl, Below.refl _ _⟩

set_option maxRecDepth 100000 in
set_option maxHeartbeats 8000000 in
theorem walk_FnStaffRun (a0 : Option Addr) (len0 cap0 : Nat) (z0 : List Int) (w : World) (w0 : IsRowK .u8 w a0 len0 cap0 z0) :
    Calls Tryz.prog 7 #[.slice a0 len0 cap0] w fun e w' => e = .returned (.bool true) ∧ Below w.heap.size w w' := by
  rcases Nat.lt_or_ge 1048576 len0 with hbig | hsm
  · have hb : (1048576 : Int) < (len0 : Int) := by omega
    go_enter Tryz.func7, Tryz.ntmps7
    go_wp2_with fail
    go_ret
    exact ⟨rfl, Below.refl _ _⟩
  have hb : (len0 : Int) ≤ 1048576 := by omega
  have DN := Lib.hid (drawStaffRun w0 hsm)
  clear w0
  go_enter Tryz.func7, Tryz.ntmps7
  go_wp2_with (go_at_call 23; refine DN.out.mono ?_)
  rintro e w1 ⟨a, D, K, rfl, ha0, ha3, hD, hK, b1⟩
  have B1 := Lib.hid b1
  have IR := implStaffRun a D K (by omega) (by omega)
  have SR := specStaffRun a D K (by omega)
  unfold stV at IR SR
  clear b1 DN
  cases hr : stRun a D K with
  | none =>
    rw [hr] at IR SR
    have IR := Lib.hid (fun w => (show Calls Tryz.prog 24 #[.int .i64 a, .string D, .string K] w fun e w' => e = .returned (.tuple #[.int .i64 0, .bool false]) ∧ Below w.heap.size w w' from IR w))
    have SR := Lib.hid (fun w => (show Calls Tryz.prog 25 #[.int .i64 a, .string D, .string K] w fun e w' => e = .returned (.tuple #[.int .i64 0, .bool false]) ∧ Below w.heap.size w w' from SR w))
    clear hr
    go_wp2_with (go_at_call 24; refine (IR.out _).mono ?_)
    rintro e w2 ⟨rfl, b2⟩
    go_wp2_with (go_at_call 25; refine (SR.out _).mono ?_)
    rintro e w3 ⟨rfl, b3⟩
    go_wp2_with fail
    go_ret
    exact ⟨rfl, chain B1.out (chain b2 b3)⟩
  | some y =>
    rw [hr] at IR SR
    have IR := Lib.hid (fun w => (show Calls Tryz.prog 24 #[.int .i64 a, .string D, .string K] w fun e w' => e = .returned (.tuple #[.int .i64 y, .bool true]) ∧ Below w.heap.size w w' from IR w))
    have SR := Lib.hid (fun w => (show Calls Tryz.prog 25 #[.int .i64 a, .string D, .string K] w fun e w' => e = .returned (.tuple #[.int .i64 y, .bool true]) ∧ Below w.heap.size w w' from SR w))
    obtain ⟨h1, h2, h3, h4⟩ := st_facts hr
    have IT := Lib.hid (implTurn D (by omega))
    rw [dt_yes h2, h2] at IT
    have I2 := implStaffRun (1 - a) (tnS D) K (by rw [tnS_size]; omega) (by omega)
    unfold stV at I2
    rw [run_tn hr] at I2
    have I2 := Lib.hid (fun w => (show Calls Tryz.prog 24 #[.int .i64 (1 - a), .string (tnS D), .string K] w fun e w' => e = .returned (.tuple #[.int .i64 (1 - y), .bool true]) ∧ Below w.heap.size w w' from I2 w))
    have CN := Lib.hid (countOfB K (by omega) 83)
    have od := run_odd hr
    have hy01 : y = 0 ∨ y = 1 := by
      have := st_odd _ _ h4
      omega
    have cr := cntTo_range K 83 K.size
    have BK := Lib.hid (fun (k : Nat) (hk : k + 1 < D.size) => st_back hr hk)
    obtain ⟨T, hT⟩ : ∃ T, T = tnS D := ⟨_, rfl⟩
    obtain ⟨c, hc⟩ : ∃ c, c = cntTo K 83 K.size := ⟨_, rfl⟩
    rw [← hT] at IT I2
    rw [← hc] at CN od cr
    obtain ⟨c0, c1⟩ := cr
    have y0 : 0 ≤ y := by omega
    have y1 : y ≤ 1 := by omega
    have hDI : (D.size : Int) ≤ 100 := by omega
    have fin : ((y != a) == (c % 2 == 1)) = true := by
      by_cases q : y = a
      · have q2 : ¬ c % 2 = 1 := fun z => od.2 z q
        have e1 : (y != a) = false := by simp [q]
        have e2 : (c % 2 == 1) = false := beq_eq_false_iff_ne.2 q2
        rw [e1, e2]; rfl
      · have q2 : c % 2 = 1 := od.1 q
        have e1 : (y != a) = true := by simp [q]
        have e2 : (c % 2 == 1) = true := beq_iff_eq.2 q2
        rw [e1, e2]; rfl
    have HKs := Lib.hid h3
    clear hr h1 h2 h3 h4 od hT hc hy01
    go_wp2_with (go_at_call 24; refine (IR.out _).mono ?_)
    rintro e w2 ⟨rfl, b2⟩
    go_wp2_with (go_at_call 25; refine (SR.out _).mono ?_)
    rintro e w3 ⟨rfl, b3⟩
    have B3 := Lib.hid (chain B1.out (chain b2 b3))
    clear b2 b3
    go_wp2_with (go_at_call 16; refine (IT.out _).mono ?_)
    rintro e w4 ⟨rfl, b4⟩
    have B4 := Lib.hid (chain B3.out b4)
    clear b4
    go_wp2_with (go_at_call 24; refine (I2.out _).mono ?_)
    rintro e w5 ⟨rfl, b5⟩
    have B5 := Lib.hid (chain B4.out b5)
    clear b5
    go_wp2_with fail
    go_loopw [14] (fun i wr => ∃ n : Nat, 1 ≤ n ∧ (n ≤ D.size ∨ n = 1) ∧ i = .int .i64 n ∧ Below w.heap.size w wr) (fun i _ => D.size + 1 - (intOf i).toNat)
    case atStart => exact ⟨1, by omega, .inr rfl, rfl, B5.out⟩
    case round =>
      obtain ⟨n, hn1, hn, rfl, hbel⟩ := hrel
      obtain ⟨k, hk⟩ : ∃ k : Nat, n = k + 1 := ⟨n - 1, by omega⟩
      have hkk : (n : Int) ≤ 101 := by omega
      by_cases hlt : n < D.size
      · have hki : (n : Int) < (D.size : Int) := by omega
        have hix := index_is (S := D) (k := n) hlt
        have hiy := index_is (S := D) (k := k) (by omega)
        have hiz := index_is (S := K) (k := k) (by have := HKs.out; omega)
        have hw1 : IntKind.i64.wrap ((n : Int) - 1) = (k : Int) := by rw [IntWalk.i64_in _ (by omega)]; omega
        have bk := BK.out k (by omega)
        rw [← hk] at bk
        have BB := Lib.hid hbel
        obtain ⟨p, hp⟩ : ∃ p, p = bt D n := ⟨_, rfl⟩
        obtain ⟨q, hq⟩ : ∃ q, q = bt D k := ⟨_, rfl⟩
        obtain ⟨s, hs⟩ : ∃ s, s = bt K k := ⟨_, rfl⟩
        rw [← hp] at hix bk
        rw [← hq] at hiy bk
        rw [← hs] at hiz bk
        have t1 : ((p != q) == (s == 83)) = true := by
          by_cases z : p = q
          · have z2 : ¬ s = 83 := fun e => bk.2 e z
            have e1 : (p != q) = false := by simp [z]
            have e2 : (s == 83) = false := beq_eq_false_iff_ne.2 z2
            rw [e1, e2]; rfl
          · have z2 : s = 83 := bk.1 z
            have e1 : (p != q) = true := by simp [z]
            have e2 : (s == 83) = true := beq_iff_eq.2 z2
            rw [e1, e2]; rfl
        clear hp hq hs bk hbel hk fin hn
        go_wp2_with fail
        refine wp_region_quiet_below (by kernel_rfl) (by kernel_rfl) ?_
        repeat (go_big_quiet_step (skip))
        refine wpQuiet_nil ?_
        intro _ hw'
        obtain ⟨⟨dr, osr⟩, hw''⟩ := hw'
        subst hw''
        have BF := Lib.hid (chain BB.out (below_regrown wr dr osr))
        clear hix hiy hiz hw1
        go_wp2_with fail
        go_roundw
        case rel => exact ⟨n + 1, by omega, by omega, by go_num, BF.out⟩
        case measure => simp [intOf]; omega
      · have hki : ¬ (n : Int) < (D.size : Int) := by omega
        clear hk hn
        go_wp2_with (go_at_call 13; refine (CN.out _).mono ?_; rintro e w6 ⟨rfl, b6⟩)
        go_ret
        exact ⟨by simp, chain hbel b6⟩

end Go.Proofs.YthjodagbgmpbhaaGreatDoor

namespace Go.Proofs.YthjodagbgmpbhaaGreatDoor.fnStaffRun
open Go.ChangeShapes Go.WideShapes Go.ChangeAt Go.RowKit
open Go.ChangeMaps (open_string shut_string)
set_option linter.unusedVariables false

theorem own : ownKnob Tryz.prog.godebug = none := by kernel_rfl
theorem laidOut : laidOutB Tryz.prog = true := by kernel_rfl

abbrev lst : List (String × DataW Unit) := Rows.fnStaffRunRow.laid

set_option maxRecDepth 100000 in
theorem lifted (os : Os) (started : os.Started) (H : Type) (enc : TypeId × Value → H) :
    ReturnsInHanded {} Tryz.checked os 7 .any (fun w args => (Rows.fnStaffRunSpec.pre enc Tryz.prog Tryz.f7 Rows.fnStaffRunRow.domain false w args ∧ laidMetH Tryz.prog lst w) ∧ sizedMet enc Tryz.prog Tryz.f7 (OpenSpec.ofChange Rows.fnStaffRunSpec) false w args) (Rows.fnStaffRunSpec.post enc Tryz.prog Tryz.f7 false true false false) := by
  refine returns_shaped (C := Tryz.checked) (X := fun w _ => laidMetH Tryz.prog lst w) (fun _ _ _ hh h => h.of_heap hh) own started (by kernel_rfl) Tryz.func7
    (ChangeSpec.witness_shaped (enc := enc) (C := Tryz.checked) (os := os) (X := fun w _ => laidMetH Tryz.prog lst w) false (World.laidAll Tryz.prog os lst) #[.slice none 0 0] 8 (World.laidAll_os _ _ _)
      (World.shaped_of_ZipB (by kernel_rfl) (by kernel_rfl)) (by kernel_rfl) (by kernel_rfl) (by kernel_rfl)
      (by rw [MakeChecks.laidMetH_plain _ _ _ (by kernel_rfl)]; exact laidMet_laidAll _ (by kernel_rfl) (by kernel_rfl))) ?_
  intro W base args ds gs before hshape hval0 hW hcnd _ hL _
  have hval : ∀ (j : Nat) t v, Tryz.f7.params[j]? = some t → args[j]? = some v → Value.okWide Tryz.prog W .any base t v := hval0
  have hW' := hW
  obtain ⟨p, q, hA0, hV, rfl, hfz, hnd⟩ := hW
  have hA : DataW.TrodAll enc Tryz.prog W 0 (fun _ => true) true Tryz.f7.params.toList args.toList ds p := hA0
  rw [Tryz.params7] at hA hval
  obtain ⟨v0, vs0, d0, ds0, p0, q0, hargs, rfl, rfl, h0, r0⟩ := trodAll_cons hA
  obtain ⟨rfl, rfl, rfl⟩ := trodAll_nil r0
  obtain rfl : args = #[v0] := by cases args; simp_all
  obtain ⟨rfl, rfl⟩ := trodVars_none hV
  obtain ⟨a0, len0, cap0, rfl⟩ := okWide_slice Tryz.underlying22 (hval 0 22 v0 rfl rfl)
  have k0 := h0
  have lt0 : ∀ x ∈ p0, x.block < W.heap.size := by obtain ⟨m, hm⟩ := k0; exact DataW.trod_lt m _ _ _ hm
  obtain ⟨z0, w0⟩ : ∃ zs, IsRowK .u8 W a0 len0 cap0 zs := by
    obtain ⟨fuel, hf⟩ := h0
    rcases open_ints Tryz.underlying22 Tryz.underlying5 (by kernel_rfl) hf with ⟨hcs, _⟩ | ⟨x, l, c, zs, hcs, _, hl, hm, hz, _, hcell, hwz⟩
    · simp [Value.cells] at hcs
      obtain ⟨rfl, rfl, rfl⟩ := hcs
      exact ⟨[], .inl ⟨rfl, rfl, rfl, rfl⟩⟩
    · simp [Value.cells] at hcs
      obtain ⟨rfl, rfl, rfl⟩ := hcs
      exact ⟨zs, .inr ⟨_, rfl, hl, hm, by simpa using hz, hcell, hwz⟩⟩
  clear hA0 hval0
  refine (walk_FnStaffRun a0 len0 cap0 z0 W w0).mono fun e W' ⟨he, bel⟩ => ?_
  subst he
  exact ⟨_, rfl, _, _, _, [], _, [], hW', trodAll_mk1 (shut_bool Tryz.underlying4 _), (trodAll_cons_mk (Below.trod laidOut (by kernel_rfl) (of_decide_eq_true (by kernel_rfl)) k0 bel lt0) trodAll_mk0), rfl, bel.frame _, fun h => by cases h⟩

theorem closed : joinedFacts Tryz.checked.prog 7 Tryz.f7 Rows.fnStaffRunSpec Rows.fnStaffRunRow = true := by
  unfold joinedFacts
  simp only [Bool.and_eq_true]
  repeat' (refine And.intro ?_ ?_)
  all_goals first
    | with_reducible exact may_enter
    | (rw [lifts_final]; kernel_rfl)
    | (rw [make_is]; kernel_rfl)
    | kernel_rfl

theorem over : Rows.fnStaffRunRow.holds Tryz.pinned (OpenSpec.ofChange Rows.fnStaffRunSpec) :=
  OpenClaim.holds_of_wide 7 Tryz.f7 rfl rfl rfl rfl rfl rfl rfl ⟨rfl, rfl, rfl, rfl, rfl⟩ rfl rfl rfl rfl rfl (by kernel_rfl) Tryz.func7 closed
    (of_decide_eq_true (by kernel_rfl)) (by unfold Func.isWrapper; first | (rw [if_pos (by decide +kernel)]; kernel_rfl) | (rw [if_neg (by decide +kernel)]; exact ⟨rfl, rfl⟩))
    (fun os started H enc _ => lifted os started H enc)

set_option maxRecDepth 100000 in
theorem proved : Rows.FnStaffRunCardSaid :=
  Claim7.holds_tied_plain_at .later [] [.data, .pinned] true (true, "da0bbe49e90244b4bca7299c92c945dd380898e5a765bea53879b2c96e4deed0") true over (fun _ h => by cases h) (by kernel_rfl) (fun _ h => by cases h) fnStaffRun_row_tie rfl ⟨rfl, rfl⟩ (by kernel_rfl) rfl
    (fun f fn hf hfn => by
      obtain rfl : f = 7 := Option.some.inj ((show Tryz.prog.funcNamed "loop.example/blockboxes/laws.FnStaffRun" = some 7 by kernel_rfl).symm.trans hf) |>.symm
      obtain rfl : fn = Tryz.f7 := (Option.some.inj (Tryz.func7.symm.trans hfn)).symm
      exact ⟨by kernel_rfl, fun j t ht => by
        rw [Tryz.params7] at ht
        have hm : t ∈ [22] := by simpa using Array.mem_of_getElem? ht
        have hall : ([22].all fun u => !Tryz.prog.wantsStandIn u) = true := by kernel_rfl
        exact (show Tryz.prog.wantsStandIn t = false by simpa using List.all_eq_true.1 hall t hm)⟩)
    (by kernel_rfl)
#print axioms proved
end Go.Proofs.YthjodagbgmpbhaaGreatDoor.fnStaffRun
