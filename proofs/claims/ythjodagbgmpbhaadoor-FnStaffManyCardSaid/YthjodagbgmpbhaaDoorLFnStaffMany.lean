/-
  For every input the law 'FnStaffMany' returns true, and each of its arguments reads behind the call as it read before. Conditions: none beyond those of the row.
-/
import Derived.Test.YthjodagbgmpbhaaDoorRows
import Derived.WalkKit
import Derived.ProofKit
import Derived.OpenShut
import Derived.ShutString
import Derived.ChangeOld
import Derived.Below
import Derived.Deep.Matrix
import Derived.Test.YthjodagbgmpbhaaDoorIo
import Derived.LaidMore
import Derived.Lay
import Derived.SevenTiedAt
import Derived.Stop.Joined
import Derived.Test.YthjodagbgmpbhaaDoorCards
import Derived.Test.YthjodagbgmpbhaaDoorTie
import Derived.Test.YthjodagbgmpbhaaDoorShp
import Derived.Test.YthjodagbgmpbhaaDoorStM
import Derived.Test.YthjodagbgmpbhaaDoorDrawSt
import Derived.Lib.QuietBelow
import Derived.BigQuiet
namespace Go.Proofs.YthjodagbgmpbhaaDoor
open Go.RowKit

open Go.Sort

theorem pow_small {k n : Nat} (h : k ≤ n) (h8 : (n : Int) ≤ 8) : 2 ^ k ≤ 256 := Nat.le_trans (Nat.pow_le_pow_right (by omega) (show k ≤ 8 by omega)) (by decide)

set_option maxRecDepth 100000 in
set_option maxHeartbeats 8000000 in
theorem walk_FnStaffMany (a0 : Option Addr) (len0 cap0 : Nat) (z0 : List Int) (w : World) (w0 : IsRowK .u8 w a0 len0 cap0 z0) :
    Calls Tryd.prog 5 #[.slice a0 len0 cap0] w fun e w' => e = .returned (.bool true) ∧ Below w.heap.size w w' := by
  rcases Nat.lt_or_ge 1048576 len0 with hbig | hsm
  · have hb : (1048576 : Int) < (len0 : Int) := by omega
    go_enter Tryd.func5, Tryd.ntmps5
    go_wp2_with fail
    go_ret
    exact ⟨rfl, Below.refl _ _⟩
  have hb : (len0 : Int) ≤ 1048576 := by omega
  have DN := Lib.hid (drawStaffMany w0 hsm)
  clear w0
  go_enter Tryd.func5, Tryd.ntmps5
  go_wp2_with (go_at_call 15; refine DN.out.mono ?_)
  rintro e w1 ⟨a, D, rfl, ha0, ha3, hD, b1⟩
  have B1 := Lib.hid b1
  have IM := Lib.hid (implStaffMany a D (by omega))
  have SM := Lib.hid (specStaffMany a D (by omega))
  have CA := Lib.hid (fun h => cnK_all (a := a) (D := D) h)
  obtain ⟨sl, sh⟩ := sm_le a D
  obtain ⟨x, hx⟩ : ∃ x, x = smV a D := ⟨_, rfl⟩
  rw [← hx] at IM SM CA sl sh
  have hDI : (D.size : Int) ≤ 100 := by omega
  clear b1 DN hx
  go_wp2_with (go_at_call 14; refine (IM.out _).mono ?_)
  rintro e w2 ⟨rfl, b2⟩
  go_wp2_with (go_at_call 16; refine (SM.out _).mono ?_)
  rintro e w3 ⟨rfl, b3⟩
  have B3 := Lib.hid (chain B1.out (chain b2 b3))
  clear b2 b3
  by_cases hneg : x < 0
  · go_wp2_with fail
    go_ret
    exact ⟨by simp, B3.out⟩
  have x0 : 0 ≤ x := by omega
  by_cases h8 : (8 : Int) < (D.size : Int)
  · have hle : decide (x ≤ 2) = true := decide_eq_true sh
    go_wp2_with fail
    go_ret
    exact ⟨by simp, B3.out⟩
  have h8' : (D.size : Int) ≤ 8 := by omega
  have CA2 := Lib.hid (CA.out x0)
  clear CA
  go_wp2_with fail
  go_loop [9, 10] (fun q i => ∃ k p : Nat, k ≤ D.size ∧ p = 2 ^ k ∧ p ≤ 256 ∧ i = .int .i64 k ∧ q = .int .i64 p) (fun _ i => D.size - (intOf i).toNat)
  case atStart => exact ⟨0, 1, by omega, rfl, by omega, rfl, rfl⟩
  case round =>
    obtain ⟨k, p, hk, hp, hp2, rfl, rfl⟩ := hrel
    by_cases hlt : k < D.size
    · have hki : (k : Int) < (D.size : Int) := by omega
      have hp3 := pow_small (k := k + 1) hlt h8'
      have hpi : (p : Int) ≤ 256 := by omega
      have HP := Lib.hid hp
      clear hp
      go_wp2_with fail
      go_round
      case rel => exact ⟨k + 1, 2 * p, by omega, by rw [HP.out, Nat.pow_succ, Nat.mul_comm], by rw [HP.out]; rw [Nat.pow_succ] at hp3; omega, by go_num, by go_num⟩
      case measure => simp [intOf]; omega
    · obtain rfl : k = D.size := by omega
      rw [← hp] at CA2
      have hpi : (p : Int) ≤ 256 := by omega
      clear hp hlt
      go_wp2_with fail
      go_loopw [8, 11] (fun s t wr => ∃ j : Nat, j ≤ p ∧ t = .int .i64 j ∧ s = .int .i64 (cnK a D j) ∧ Below w.heap.size w wr) (fun _ t _ => p - (intOf t).toNat)
      case atStart => exact ⟨0, by omega, rfl, rfl, B3.out⟩
      case round =>
        obtain ⟨j, hj, rfl, rfl, hbel⟩ := hrel
        have cr := cnK_range a D j
        obtain ⟨c, hc⟩ : ∃ c, c = cnK a D j := ⟨_, rfl⟩
        rw [← hc] at cr ⊢
        obtain ⟨c0, c1⟩ := cr
        have hjp : (j : Int) ≤ 256 := by omega
        have HC := Lib.hid hc
        have BB := Lib.hid hbel
        clear hc hbel
        by_cases hlt : j < p
        · have hji : (j : Int) < (p : Int) := by omega
          go_wp2_with fail
          go_loop [12, 13, 14] (fun s b i => ∃ m : Nat, m ≤ D.size ∧ s = .string (kOf j m) ∧ b = .int .i64 ((j / 2 ^ m : Nat) : Int) ∧ i = .int .i64 m) (fun _ _ i => D.size - (intOf i).toNat)
          case atStart => exact ⟨0, by omega, rfl, by simp, rfl⟩
          case round =>
            obtain ⟨m, hmD, rfl, rfl, rfl⟩ := hrel
            have hKs := kOf_size j m
            have hbj := Nat.div_le_self j (2 ^ m)
            by_cases hl : m < D.size
            · have hmi : (m : Int) < (D.size : Int) := by omega
              have E1 := Lib.hid (fun h => kOf_S (j := j) (n := m) h)
              have E2 := Lib.hid (fun h => kOf_T (j := j) (n := m) h)
              have E3 := Lib.hid (show j / 2 ^ (m + 1) = j / 2 ^ m / 2 by rw [Nat.pow_succ, Nat.div_div_eq_div_mul])
              obtain ⟨K, hK⟩ : ∃ K, K = kOf j m := ⟨_, rfl⟩
              obtain ⟨b, hb⟩ : ∃ b, b = j / 2 ^ m := ⟨_, rfl⟩
              rw [← hb] at hbj E3 ⊢
              rw [← hb, ← hK] at E1 E2
              rw [← hK] at hKs ⊢
              have hbi : (b : Int) ≤ 256 := by omega
              have hadd : ¬ 9223372036854775807 < K.size + 1 := by omega
              have hq : ((b : Int).tdiv 2) = ((b / 2 : Nat) : Int) := rfl
              have hw : IntKind.i64.wrap ((b / 2 : Nat) : Int) = ((b / 2 : Nat) : Int) := IntWalk.i64_in _ (by omega)
              clear hb hK
              by_cases z : b % 2 = 0
              · have hr : ((b : Int).tmod 2) = 0 := by have : ((b : Int).tmod 2) = ((b % 2 : Nat) : Int) := rfl; omega
                go_wp2_with fail
                go_round
                case rel => exact ⟨m + 1, by omega, by rw [E1.out z], by rw [E3.out]; exact congrArg (Value.int .i64) (by omega), by go_num⟩
                case measure => simp [intOf]; omega
              · have hr : ((b : Int).tmod 2) = 1 := by have : ((b : Int).tmod 2) = ((b % 2 : Nat) : Int) := rfl; omega
                go_wp2_with fail
                go_round
                case rel => exact ⟨m + 1, by omega, by rw [E2.out z], by rw [E3.out]; exact congrArg (Value.int .i64) (by omega), by go_num⟩
                case measure => simp [intOf]; omega
            · obtain rfl : m = D.size := by omega
              have IR := implStaffRun a D (kOf j D.size) (by omega) (by omega)
              unfold stV at IR
              have OK1 := Lib.hid (fun h => cnK_yes (a := a) (D := D) (j := j) h)
              have OK2 := Lib.hid (fun h => cnK_no (a := a) (D := D) (j := j) h)
              obtain ⟨o, ho⟩ : ∃ o, o = okK a D j := ⟨_, rfl⟩
              rw [show (stRun a D (kOf j D.size)).isSome = o from ho.symm] at IR
              rw [← ho, ← HC.out] at OK1 OK2
              have IR := Lib.hid IR
              obtain ⟨r, hr⟩ : ∃ r, r = (stRun a D (kOf j D.size)).getD 0 := ⟨_, rfl⟩
              obtain ⟨K, hK⟩ : ∃ K, K = kOf j D.size := ⟨_, rfl⟩
              rw [← hr, ← hK] at IR
              rw [← hK]
              clear hr hK ho hKs hbj hl
              go_wp2_with (go_at_call 12; refine (IR.out _).mono ?_)
              rintro e w4 rfl b4
              have B4 := Lib.hid (chain BB.out b4)
              clear b4
              cases o
              · go_wp2_with fail
                go_roundw
                case rel => exact ⟨j + 1, by omega, by go_num, by rw [OK2.out (by simp)], B4.out⟩
                case measure => simp [intOf]; omega
              · go_wp2_with fail
                go_roundw
                case rel => exact ⟨j + 1, by omega, by go_num, by rw [OK1.out (by simp)], B4.out⟩
                case measure => simp [intOf]; omega
        · obtain rfl : j = p := by omega
          rw [← HC.out] at CA2
          have e := CA2.out
          subst e
          go_wp2_with fail
          go_ret
          exact ⟨by simp, BB.out⟩

end Go.Proofs.YthjodagbgmpbhaaDoor

namespace Go.Proofs.YthjodagbgmpbhaaDoor.fnStaffMany
open Go.ChangeShapes Go.WideShapes Go.ChangeAt Go.RowKit
open Go.ChangeMaps (open_string shut_string)
set_option linter.unusedVariables false

theorem own : ownKnob Tryd.prog.godebug = none := by kernel_rfl
theorem laidOut : laidOutB Tryd.prog = true := by kernel_rfl

abbrev lst : List (String × DataW Unit) := Rows.fnStaffManyRow.laid

set_option maxRecDepth 100000 in
theorem lifted (os : Os) (started : os.Started) (H : Type) (enc : TypeId × Value → H) :
    ReturnsInHanded {} Tryd.checked os 5 .any (fun w args => (Rows.fnStaffManySpec.pre enc Tryd.prog Tryd.f5 Rows.fnStaffManyRow.domain false w args ∧ laidMetH Tryd.prog lst w) ∧ sizedMet enc Tryd.prog Tryd.f5 (OpenSpec.ofChange Rows.fnStaffManySpec) false w args) (Rows.fnStaffManySpec.post enc Tryd.prog Tryd.f5 false true false false) := by
  refine returns_shaped (C := Tryd.checked) (X := fun w _ => laidMetH Tryd.prog lst w) (fun _ _ _ hh h => h.of_heap hh) own started (by kernel_rfl) Tryd.func5
    (ChangeSpec.witness_shaped (enc := enc) (C := Tryd.checked) (os := os) (X := fun w _ => laidMetH Tryd.prog lst w) false (World.laidAll Tryd.prog os lst) #[.slice none 0 0] 8 (World.laidAll_os _ _ _)
      (World.shaped_of_ZipB (by kernel_rfl) (by kernel_rfl)) (by kernel_rfl) (by kernel_rfl) (by kernel_rfl)
      (by rw [MakeChecks.laidMetH_plain _ _ _ (by kernel_rfl)]; exact laidMet_laidAll _ (by kernel_rfl) (by kernel_rfl))) ?_
  intro W base args ds gs before hshape hval0 hW hcnd _ hL _
  have hval : ∀ (j : Nat) t v, Tryd.f5.params[j]? = some t → args[j]? = some v → Value.okWide Tryd.prog W .any base t v := hval0
  have hW' := hW
  obtain ⟨p, q, hA0, hV, rfl, hfz, hnd⟩ := hW
  have hA : DataW.TrodAll enc Tryd.prog W 0 (fun _ => true) true Tryd.f5.params.toList args.toList ds p := hA0
  rw [Tryd.params5] at hA hval
  obtain ⟨v0, vs0, d0, ds0, p0, q0, hargs, rfl, rfl, h0, r0⟩ := trodAll_cons hA
  obtain ⟨rfl, rfl, rfl⟩ := trodAll_nil r0
  obtain rfl : args = #[v0] := by cases args; simp_all
  obtain ⟨rfl, rfl⟩ := trodVars_none hV
  obtain ⟨a0, len0, cap0, rfl⟩ := okWide_slice Tryd.underlying22 (hval 0 22 v0 rfl rfl)
  have k0 := h0
  have lt0 : ∀ x ∈ p0, x.block < W.heap.size := by obtain ⟨m, hm⟩ := k0; exact DataW.trod_lt m _ _ _ hm
  obtain ⟨z0, w0⟩ : ∃ zs, IsRowK .u8 W a0 len0 cap0 zs := by
    obtain ⟨fuel, hf⟩ := h0
    rcases open_ints Tryd.underlying22 Tryd.underlying5 (by kernel_rfl) hf with ⟨hcs, _⟩ | ⟨x, l, c, zs, hcs, _, hl, hm, hz, _, hcell, hwz⟩
    · simp [Value.cells] at hcs
      obtain ⟨rfl, rfl, rfl⟩ := hcs
      exact ⟨[], .inl ⟨rfl, rfl, rfl, rfl⟩⟩
    · simp [Value.cells] at hcs
      obtain ⟨rfl, rfl, rfl⟩ := hcs
      exact ⟨zs, .inr ⟨_, rfl, hl, hm, by simpa using hz, hcell, hwz⟩⟩
  clear hA0 hval0
  refine (walk_FnStaffMany a0 len0 cap0 z0 W w0).mono fun e W' ⟨he, bel⟩ => ?_
  subst he
  exact ⟨_, rfl, _, _, _, [], _, [], hW', trodAll_mk1 (shut_bool Tryd.underlying4 _), (trodAll_cons_mk (Below.trod laidOut (by kernel_rfl) (of_decide_eq_true (by kernel_rfl)) k0 bel lt0) trodAll_mk0), rfl, bel.frame _, fun h => by cases h⟩

theorem closed : joinedFacts Tryd.checked.prog 5 Tryd.f5 Rows.fnStaffManySpec Rows.fnStaffManyRow = true := by
  unfold joinedFacts
  simp only [Bool.and_eq_true]
  repeat' (refine And.intro ?_ ?_)
  all_goals first
    | with_reducible exact may_enter
    | (rw [lifts_final]; kernel_rfl)
    | (rw [make_is]; kernel_rfl)
    | kernel_rfl

theorem over : Rows.fnStaffManyRow.holds Tryd.pinned (OpenSpec.ofChange Rows.fnStaffManySpec) :=
  OpenClaim.holds_of_wide 5 Tryd.f5 rfl rfl rfl rfl rfl rfl rfl ⟨rfl, rfl, rfl, rfl, rfl⟩ rfl rfl rfl rfl rfl (by kernel_rfl) Tryd.func5 closed
    (of_decide_eq_true (by kernel_rfl)) (by unfold Func.isWrapper; first | (rw [if_pos (by decide +kernel)]; kernel_rfl) | (rw [if_neg (by decide +kernel)]; exact ⟨rfl, rfl⟩))
    (fun os started H enc _ => lifted os started H enc)

set_option maxRecDepth 100000 in
theorem proved : Rows.FnStaffManyCardSaid :=
  Claim7.holds_tied_plain_at .later [] [.data, .pinned] true (true, "2a762c24dd630722956f2c9f187e3d279803ba83d04c81186cfe00238cb52aa4") false over (fun _ h => by cases h) (by kernel_rfl) (fun _ h => by cases h) fnStaffMany_row_tie rfl ⟨rfl, rfl⟩ (by kernel_rfl) rfl
    (fun f fn hf hfn => by
      obtain rfl : f = 5 := Option.some.inj ((show Tryd.prog.funcNamed "loop.example/blockboxes/laws.FnStaffMany" = some 5 by kernel_rfl).symm.trans hf) |>.symm
      obtain rfl : fn = Tryd.f5 := (Option.some.inj (Tryd.func5.symm.trans hfn)).symm
      exact ⟨by kernel_rfl, fun j t ht => by
        rw [Tryd.params5] at ht
        have hm : t ∈ [22] := by simpa using Array.mem_of_getElem? ht
        have hall : ([22].all fun u => !Tryd.prog.wantsStandIn u) = true := by kernel_rfl
        exact (show Tryd.prog.wantsStandIn t = false by simpa using List.all_eq_true.1 hall t hm)⟩)
    (by kernel_rfl)
#print axioms proved
end Go.Proofs.YthjodagbgmpbhaaDoor.fnStaffMany
