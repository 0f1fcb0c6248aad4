/-
  For every input the law 'FnTokenNeeds' returns true, and each of its arguments reads behind the call as it read before. Conditions: none beyond those of the row.
-/
import Derived.Test.YthjodagbgmpbhaaGreatDoorRows
import Derived.WalkKit
import Derived.ProofKit
import Derived.OpenShut
import Derived.ShutString
import Derived.ChangeOld
import Derived.Below
import Derived.Deep.Matrix
import Derived.Test.YthjodagbgmpbhaaGreatDoorIo
import Derived.LaidMore
import Derived.Lay
import Derived.SevenTiedAt
import Derived.Stop.Joined
import Derived.Test.YthjodagbgmpbhaaGreatDoorCards
import Derived.Test.YthjodagbgmpbhaaGreatDoorTie
import Derived.Test.YthjodagbgmpbhaaGreatDoorShp
import Derived.Test.YthjodagbgmpbhaaGreatDoorDirH
import Derived.Test.YthjodagbgmpbhaaGreatDoorDirC
import Derived.Test.YthjodagbgmpbhaaGreatDoorDrawA
import Derived.BigQuiet
namespace Go.Proofs.YthjodagbgmpbhaaGreatDoor
open Go.RowKit

open Go.Sort

/-- Trains to and fro. -/
theorem six_dirs : dirB ⟨#[85, 68, 85, 68, 85, 68]⟩ = true ∧ ndA ⟨#[85, 68, 85, 68, 85, 68]⟩ = 1 ∧ ndB ⟨#[85, 68, 85, 68, 85, 68]⟩ = 0 := by
  have e : dirB ⟨#[85, 68, 85, 68, 85, 68]⟩ = true := by kernel_rfl
  refine ⟨e, ?_, ?_⟩
  · unfold ndA; rw [e]; kernel_rfl
  · unfold ndB; rw [e]; kernel_rfl

set_option maxRecDepth 100000 in
set_option maxHeartbeats 8000000 in
theorem walk_FnTokenNeeds (a0 : Option Addr) (len0 cap0 : Nat) (z0 : List Int) (w : World) (w0 : IsRowK .u8 w a0 len0 cap0 z0) :
    Calls Tryz.prog 4 #[.slice a0 len0 cap0] w fun e w' => e = .returned (.bool true) ∧ Below w.heap.size w w' := by
  rcases Nat.lt_or_ge 1048576 len0 with hbig | hsm
  · have hb : (1048576 : Int) < (len0 : Int) := by omega
    go_enter Tryz.func4, Tryz.ntmps4
    go_wp2_with fail
    go_ret
    exact ⟨rfl, Below.refl _ _⟩
  have hb : (len0 : Int) ≤ 1048576 := by omega
  have DN := Lib.hid (drawNeeds w0 hsm)
  clear w0
  go_enter Tryz.func4, Tryz.ntmps4
  go_wp2_with (go_at_call 14; refine DN.out.mono ?_)
  rintro e w1 ⟨S, rfl, hS, b1⟩
  have B1 := Lib.hid b1
  have IN := Lib.hid (implNeeds S (by omega))
  have SN := Lib.hid (specNeeds S (by omega))
  obtain ⟨d, hd⟩ : ∃ d, d = dirB S := ⟨_, rfl⟩
  rw [← hd] at IN SN
  clear b1 DN
  cases d
  · rw [show ndA S = 0 by unfold ndA; rw [← hd]; rfl, show ndB S = 0 by unfold ndB; rw [← hd]; rfl] at IN SN
    clear hd
    go_wp2_with (go_at_call 11; refine (IN.out _).mono ?_)
    rintro e w2 ⟨rfl, b2⟩
    go_wp2_with (go_at_call 15; refine (SN.out _).mono ?_)
    rintro e w3 ⟨rfl, b3⟩
    go_wp2_with fail
    go_ret
    exact ⟨rfl, chain B1.out (chain b2 b3)⟩
  · have IT := Lib.hid (implTurn S (by omega))
    rw [dt_yes hd.symm, ← hd] at IT
    have IN2 := Lib.hid (implNeeds (tnS S) (by rw [tnS_size]; omega))
    rw [dir_tn hd.symm, (nd_tn hd.symm).1, (nd_tn hd.symm).2] at IN2
    have IN3 := Lib.hid (implNeeds ⟨#[85, 68, 85, 68, 85, 68]⟩ (by decide))
    rw [six_dirs.1, six_dirs.2.1, six_dirs.2.2] at IN3
    have sm := nd_sum hd.symm
    have rg := nd_range S
    have h30 := dir_size hd.symm
    obtain ⟨T, hTT⟩ : ∃ T, T = tnS S := ⟨_, rfl⟩
    obtain ⟨x, hx⟩ : ∃ c, c = ndA S := ⟨_, rfl⟩
    obtain ⟨y, hy⟩ : ∃ c, c = ndB S := ⟨_, rfl⟩
    rw [← hTT] at IT IN2
    rw [← hx, ← hy] at IN SN IN2 sm rg
    obtain ⟨⟨x0, x30⟩, y0, y30⟩ := rg
    obtain ⟨s1, s2⟩ := sm
    have dq : (decide (0 < x + y) == decide ((0 : Int) < (S.size : Int))) = true := by
      have : (0 < x + y) ↔ ((0 : Int) < (S.size : Int)) := by rw [s2]; omega
      rw [show decide (0 < x + y) = decide ((0 : Int) < (S.size : Int)) from decide_eq_decide.2 this]; simp
    have dq' : (decide (0 < x + y) == decide (0 < S.size)) = true := by
      rw [show decide (0 < x + y) = decide (0 < S.size) from decide_eq_decide.2 s2]; simp
    clear hd hTT hx hy s2
    go_wp2_with (go_at_call 11; refine (IN.out _).mono ?_)
    rintro e w2 ⟨rfl, b2⟩
    go_wp2_with (go_at_call 15; refine (SN.out _).mono ?_)
    rintro e w3 ⟨rfl, b3⟩
    have B3 := Lib.hid (chain B1.out (chain b2 b3))
    clear b2 b3
    go_wp2_with (go_at_call 16; refine (IT.out _).mono ?_)
    rintro e w4 ⟨rfl, b4⟩
    go_wp2_with (go_at_call 11; refine (IN2.out _).mono ?_)
    rintro e w5 ⟨rfl, b5⟩
    go_wp2_with (go_at_call 11; refine (IN3.out _).mono ?_)
    rintro e w6 ⟨rfl, b6⟩
    go_wp2_with fail
    go_ret
    exact ⟨by simp, chain B3.out (chain b4 (chain b5 b6))⟩

end Go.Proofs.YthjodagbgmpbhaaGreatDoor

namespace Go.Proofs.YthjodagbgmpbhaaGreatDoor.fnTokenNeeds
open Go.ChangeShapes Go.WideShapes Go.ChangeAt Go.RowKit
open Go.ChangeMaps (open_string shut_string)
set_option linter.unusedVariables false

theorem own : ownKnob Tryz.prog.godebug = none := by kernel_rfl
theorem laidOut : laidOutB Tryz.prog = true := by kernel_rfl

abbrev lst : List (String × DataW Unit) := Rows.fnTokenNeedsRow.laid

set_option maxRecDepth 100000 in
theorem lifted (os : Os) (started : os.Started) (H : Type) (enc : TypeId × Value → H) :
    ReturnsInHanded {} Tryz.checked os 4 .any (fun w args => (Rows.fnTokenNeedsSpec.pre enc Tryz.prog Tryz.f4 Rows.fnTokenNeedsRow.domain false w args ∧ laidMetH Tryz.prog lst w) ∧ sizedMet enc Tryz.prog Tryz.f4 (OpenSpec.ofChange Rows.fnTokenNeedsSpec) false w args) (Rows.fnTokenNeedsSpec.post enc Tryz.prog Tryz.f4 false true false false) := by
  refine returns_shaped (C := Tryz.checked) (X := fun w _ => laidMetH Tryz.prog lst w) (fun _ _ _ hh h => h.of_heap hh) own started (by kernel_rfl) Tryz.func4
    (ChangeSpec.witness_shaped (enc := enc) (C := Tryz.checked) (os := os) (X := fun w _ => laidMetH Tryz.prog lst w) false (World.laidAll Tryz.prog os lst) #[.slice none 0 0] 8 (World.laidAll_os _ _ _)
      (World.shaped_of_ZipB (by kernel_rfl) (by kernel_rfl)) (by kernel_rfl) (by kernel_rfl) (by kernel_rfl)
      (by rw [MakeChecks.laidMetH_plain _ _ _ (by kernel_rfl)]; exact laidMet_laidAll _ (by kernel_rfl) (by kernel_rfl))) ?_
  intro W base args ds gs before hshape hval0 hW hcnd _ hL _
  have hval : ∀ (j : Nat) t v, Tryz.f4.params[j]? = some t → args[j]? = some v → Value.okWide Tryz.prog W .any base t v := hval0
  have hW' := hW
  obtain ⟨p, q, hA0, hV, rfl, hfz, hnd⟩ := hW
  have hA : DataW.TrodAll enc Tryz.prog W 0 (fun _ => true) true Tryz.f4.params.toList args.toList ds p := hA0
  rw [Tryz.params4] at hA hval
  obtain ⟨v0, vs0, d0, ds0, p0, q0, hargs, rfl, rfl, h0, r0⟩ := trodAll_cons hA
  obtain ⟨rfl, rfl, rfl⟩ := trodAll_nil r0
  obtain rfl : args = #[v0] := by cases args; simp_all
  obtain ⟨rfl, rfl⟩ := trodVars_none hV
  obtain ⟨a0, len0, cap0, rfl⟩ := okWide_slice Tryz.underlying22 (hval 0 22 v0 rfl rfl)
  have k0 := h0
  have lt0 : ∀ x ∈ p0, x.block < W.heap.size := by obtain ⟨m, hm⟩ := k0; exact DataW.trod_lt m _ _ _ hm
  obtain ⟨z0, w0⟩ : ∃ zs, IsRowK .u8 W a0 len0 cap0 zs := by
    obtain ⟨fuel, hf⟩ := h0
    rcases open_ints Tryz.underlying22 Tryz.underlying5 (by kernel_rfl) hf with ⟨hcs, _⟩ | ⟨x, l, c, zs, hcs, _, hl, hm, hz, _, hcell, hwz⟩
    · simp [Value.cells] at hcs
      obtain ⟨rfl, rfl, rfl⟩ := hcs
      exact ⟨[], .inl ⟨rfl, rfl, rfl, rfl⟩⟩
    · simp [Value.cells] at hcs
      obtain ⟨rfl, rfl, rfl⟩ := hcs
      exact ⟨zs, .inr ⟨_, rfl, hl, hm, by simpa using hz, hcell, hwz⟩⟩
  clear hA0 hval0
  refine (walk_FnTokenNeeds a0 len0 cap0 z0 W w0).mono fun e W' ⟨he, bel⟩ => ?_
  subst he
  exact ⟨_, rfl, _, _, _, [], _, [], hW', trodAll_mk1 (shut_bool Tryz.underlying4 _), (trodAll_cons_mk (Below.trod laidOut (by kernel_rfl) (of_decide_eq_true (by kernel_rfl)) k0 bel lt0) trodAll_mk0), rfl, bel.frame _, fun h => by cases h⟩

theorem closed : joinedFacts Tryz.checked.prog 4 Tryz.f4 Rows.fnTokenNeedsSpec Rows.fnTokenNeedsRow = true := by
  unfold joinedFacts
  simp only [Bool.and_eq_true]
  repeat' (refine And.intro ?_ ?_)
  all_goals first
    | with_reducible exact may_enter
    | (rw [lifts_final]; kernel_rfl)
    | (rw [make_is]; kernel_rfl)
    | kernel_rfl

theorem over : Rows.fnTokenNeedsRow.holds Tryz.pinned (OpenSpec.ofChange Rows.fnTokenNeedsSpec) :=
  OpenClaim.holds_of_wide 4 Tryz.f4 rfl rfl rfl rfl rfl rfl rfl ⟨rfl, rfl, rfl, rfl, rfl⟩ rfl rfl rfl rfl rfl (by kernel_rfl) Tryz.func4 closed
    (of_decide_eq_true (by kernel_rfl)) (by unfold Func.isWrapper; first | (rw [if_pos (by decide +kernel)]; kernel_rfl) | (rw [if_neg (by decide +kernel)]; exact ⟨rfl, rfl⟩))
    (fun os started H enc _ => lifted os started H enc)

set_option maxRecDepth 100000 in
theorem proved : Rows.FnTokenNeedsCardSaid :=
  Claim7.holds_tied_plain_at .later [] [.data, .pinned] true (true, "da0bbe49e90244b4bca7299c92c945dd380898e5a765bea53879b2c96e4deed0") true over (fun _ h => by cases h) (by kernel_rfl) (fun _ h => by cases h) fnTokenNeeds_row_tie rfl ⟨rfl, rfl⟩ (by kernel_rfl) rfl
    (fun f fn hf hfn => by
      obtain rfl : f = 4 := Option.some.inj ((show Tryz.prog.funcNamed "loop.example/blockboxes/laws.FnTokenNeeds" = some 4 by kernel_rfl).symm.trans hf) |>.symm
      obtain rfl : fn = Tryz.f4 := (Option.some.inj (Tryz.func4.symm.trans hfn)).symm
      exact ⟨by kernel_rfl, fun j t ht => by
        rw [Tryz.params4] at ht
        have hm : t ∈ [22] := by simpa using Array.mem_of_getElem? ht
        have hall : ([22].all fun u => !Tryz.prog.wantsStandIn u) = true := by kernel_rfl
        exact (show Tryz.prog.wantsStandIn t = false by simpa using List.all_eq_true.1 hall t hm)⟩)
    (by kernel_rfl)
#print axioms proved
end Go.Proofs.YthjodagbgmpbhaaGreatDoor.fnTokenNeeds
