/-
  For every input the law 'FnDirections' returns true, and each of its arguments reads behind the call as it read before. Conditions: none beyond those of the row.
-/
import Derived.Test.YthjodagbgmpbhaaGreatDoorRows
import Derived.WalkKit
import Derived.ProofKit
import Derived.OpenShut
import Derived.ShutString
import Derived.ChangeOld
import Derived.Below
import Derived.Deep.Matrix
import Derived.Test.YthjodagbgmpbhaaGreatDoorIo
import Derived.LaidMore
import Derived.Lay
import Derived.SevenTiedAt
import Derived.Stop.Joined
import Derived.Test.YthjodagbgmpbhaaGreatDoorCards
import Derived.Test.YthjodagbgmpbhaaGreatDoorTie
import Derived.Test.YthjodagbgmpbhaaGreatDoorShp
import Derived.Test.YthjodagbgmpbhaaGreatDoorDirH
import Derived.Test.YthjodagbgmpbhaaGreatDoorDirD
import Derived.Test.YthjodagbgmpbhaaGreatDoorDrawA
import Derived.Lib.QuietBelow
import Derived.BigQuiet
namespace Go.Proofs.YthjodagbgmpbhaaGreatDoor
open Go.RowKit

open Go.Sort

theorem maxlen_below {w w1 : World} (hm : ∃ m : Int, w.cell? ⟨maxLenG, 0, none⟩ = some (.int .i64 m)) (b : Below w.heap.size w w1) : ∃ m : Int, w1.cell? ⟨maxLenG, 0, none⟩ = some (.int .i64 m) := by
  obtain ⟨m, h⟩ := hm
  exact ⟨m, (b.cell (p := ⟨maxLenG, 0, none⟩) (World.block_lt_of_cell? w _ h)).trans h⟩

set_option maxRecDepth 100000 in
set_option maxHeartbeats 8000000 in
theorem walk_FnDirections (a0 : Option Addr) (len0 cap0 : Nat) (z0 : List Int) (w : World) (w0 : IsRowK .u8 w a0 len0 cap0 z0) (hm : ∃ m : Int, w.cell? ⟨maxLenG, 0, none⟩ = some (.int .i64 m)) :
    Calls Tryz.prog 6 #[.slice a0 len0 cap0] w fun e w' => e = .returned (.bool true) ∧ Below w.heap.size w w' := by
  rcases Nat.lt_or_ge 1048576 len0 with hbig | hsm
  · have hb : (1048576 : Int) < (len0 : Int) := by omega
    clear hm
    go_enter Tryz.func6, Tryz.ntmps6
    go_wp2_with fail
    go_ret
    exact ⟨rfl, Below.refl _ _⟩
  have hb : (len0 : Int) ≤ 1048576 := by omega
  have DN := Lib.hid (drawTurn w0 hsm)
  have HM := Lib.hid hm
  clear w0 hm
  go_enter Tryz.func6, Tryz.ntmps6
  go_wp2_with (go_at_call 20; refine DN.out.mono ?_)
  rintro e w1 ⟨S, rfl, hS, b1⟩
  have B1 := Lib.hid b1
  have IT := Lib.hid (implTurn S (by omega))
  have ST := Lib.hid (specTurn S (by omega))
  obtain ⟨d, hd⟩ : ∃ d, d = dirB S := ⟨_, rfl⟩
  rw [← hd] at IT ST
  clear b1 DN
  cases d
  · rw [dt_no hd.symm] at IT ST
    clear hd
    go_wp2_with (go_at_call 16; refine (IT.out _).mono ?_)
    rintro e w2 ⟨rfl, b2⟩
    go_wp2_with (go_at_call 21; refine (ST.out _).mono ?_)
    rintro e w3 ⟨rfl, b3⟩
    go_wp2_with fail
    go_ret
    exact ⟨rfl, chain B1.out (chain b2 b3)⟩
  · rw [dt_yes hd.symm] at IT ST
    have hT := dir_tn hd.symm
    have IT2 := Lib.hid (implTurn (tnS S) (by rw [tnS_size]; omega))
    rw [dt_yes hT, hT, tnS_twice] at IT2
    have NE := Lib.hid (fun (k : Nat) (hk : k < S.size) => bt_other hd.symm hk)
    have HC := Lib.hid (chN_tn hd.symm)
    have ICS := Lib.hid (fun (w1 : World) (h : ∃ m : Int, w1.cell? ⟨maxLenG, 0, none⟩ = some (.int .i64 m)) => implChanges S (by omega) w1 h)
    have ICT := Lib.hid (fun (w1 : World) (h : ∃ m : Int, w1.cell? ⟨maxLenG, 0, none⟩ = some (.int .i64 m)) => implChanges (tnS S) (by rw [tnS_size]; omega) w1 h)
    rw [HC.out] at ICT
    have hTs := tnS_size S
    obtain ⟨T, hTT⟩ : ∃ T, T = tnS S := ⟨_, rfl⟩
    obtain ⟨c, hc⟩ : ∃ c, c = chN S := ⟨_, rfl⟩
    rw [← hc] at ICS ICT
    rw [← hTT] at IT ST IT2 NE ICT hTs
    have hS100 : (S.size : Int) ≤ 100 := by omega
    clear hd hT hTT hc HC
    go_wp2_with (go_at_call 16; refine (IT.out _).mono ?_)
    rintro e w2 ⟨rfl, b2⟩
    have B2 := Lib.hid (chain B1.out b2)
    clear b2
    go_wp2_with (go_at_call 21; refine (ST.out _).mono ?_)
    rintro e w3 ⟨rfl, b3⟩
    have B3 := Lib.hid (chain B2.out b3)
    clear b3
    go_wp2_with (go_at_call 16; refine (IT2.out _).mono ?_)
    rintro e w4 ⟨rfl, b4⟩
    have B4 := Lib.hid (chain B3.out b4)
    clear b4
    go_wp2_with fail
    go_loopw [10] (fun i wr => ∃ k : Nat, k ≤ S.size ∧ i = .int .i64 k ∧ Below w.heap.size w wr) (fun i _ => S.size - (intOf i).toNat)
    case atStart => exact ⟨0, by omega, rfl, B4.out⟩
    case round =>
      obtain ⟨k, hk, rfl, hbel⟩ := hrel
      by_cases hlt : k < S.size
      · have hki : (k : Int) < (S.size : Int) := by omega
        have hix := index_is hlt
        have hiy := index_is (S := T) (k := k) (by omega)
        have ne := NE.out k hlt
        obtain ⟨p, hp⟩ : ∃ p, p = bt S k := ⟨_, rfl⟩
        obtain ⟨q, hq⟩ : ∃ q, q = bt T k := ⟨_, rfl⟩
        rw [← hp] at hix ne
        rw [← hq] at hiy ne
        have t1 : (q == p) = false := by simp [ne]
        have BB := Lib.hid hbel
        clear hp hq ne hTs hbel
        go_wp2_with fail
        refine wp_region_quiet_below (by kernel_rfl) (by kernel_rfl) ?_
        repeat (go_big_quiet_step (skip))
        refine wpQuiet_nil ?_
        intro _ hw'
        obtain ⟨⟨dr, osr⟩, hw''⟩ := hw'
        subst hw''
        have BF := Lib.hid (chain BB.out (below_regrown wr dr osr))
        clear hix hiy
        go_wp2_with fail
        go_roundw
        case rel => exact ⟨k + 1, by omega, by go_num, BF.out⟩
        case measure => simp [intOf]; omega
      · obtain rfl : k = S.size := by omega
        have M := maxlen_below HM.out hbel
        have C1 := Lib.hid (ICT.out wr M)
        go_wp2_with (first | (go_at_call_of 22 (Value.string T); refine C1.out.mono ?_; rintro e w5 ⟨rfl, b5⟩; have C2 := Lib.hid (ICS.out w5 (maxlen_below M b5))) | (go_at_call_of 22 (Value.string S); refine C2.out.mono ?_; rintro e w6 ⟨rfl, b6⟩))
        go_ret
        exact ⟨by simp, chain hbel (chain b5 b6)⟩

end Go.Proofs.YthjodagbgmpbhaaGreatDoor

namespace Go.Proofs.YthjodagbgmpbhaaGreatDoor.fnDirections
open Go.ChangeShapes Go.WideShapes Go.ChangeAt Go.RowKit
open Go.ChangeMaps (open_string shut_string)
set_option linter.unusedVariables false

theorem own : ownKnob Tryz.prog.godebug = none := by kernel_rfl
theorem laidOut : laidOutB Tryz.prog = true := by kernel_rfl

abbrev lst : List (String × DataW Unit) := Rows.fnDirectionsRow.laid

set_option maxRecDepth 100000 in
theorem lifted (os : Os) (started : os.Started) (H : Type) (enc : TypeId × Value → H) :
    ReturnsInHanded {} Tryz.checked os 6 .any (fun w args => (Rows.fnDirectionsSpec.pre enc Tryz.prog Tryz.f6 Rows.fnDirectionsRow.domain false w args ∧ laidMetH Tryz.prog lst w) ∧ sizedMet enc Tryz.prog Tryz.f6 (OpenSpec.ofChange Rows.fnDirectionsSpec) false w args) (Rows.fnDirectionsSpec.post enc Tryz.prog Tryz.f6 false true false false) := by
  refine returns_shaped (C := Tryz.checked) (X := fun w _ => laidMetH Tryz.prog lst w) (fun _ _ _ hh h => h.of_heap hh) own started (by kernel_rfl) Tryz.func6
    (ChangeSpec.witness_shaped (enc := enc) (C := Tryz.checked) (os := os) (X := fun w _ => laidMetH Tryz.prog lst w) false (World.laidAll Tryz.prog os lst) #[.slice none 0 0] 8 (World.laidAll_os _ _ _)
      (World.shaped_of_ZipB (by kernel_rfl) (by kernel_rfl)) (by kernel_rfl) (by kernel_rfl) (by kernel_rfl)
      (by rw [MakeChecks.laidMetH_plain _ _ _ (by kernel_rfl)]; exact laidMet_laidAll _ (by kernel_rfl) (by kernel_rfl))) ?_
  intro W base args ds gs before hshape hval0 hW hcnd _ hL _
  have hval : ∀ (j : Nat) t v, Tryz.f6.params[j]? = some t → args[j]? = some v → Value.okWide Tryz.prog W .any base t v := hval0
  have hW' := hW
  obtain ⟨p, q, hA0, hV, rfl, hfz, hnd⟩ := hW
  have hA : DataW.TrodAll enc Tryz.prog W 0 (fun _ => true) true Tryz.f6.params.toList args.toList ds p := hA0
  rw [Tryz.params6] at hA hval
  obtain ⟨v0, vs0, d0, ds0, p0, q0, hargs, rfl, rfl, h0, r0⟩ := trodAll_cons hA
  obtain ⟨rfl, rfl, rfl⟩ := trodAll_nil r0
  obtain rfl : args = #[v0] := by cases args; simp_all
  obtain ⟨rfl, rfl⟩ := trodVars_none hV
  obtain ⟨a0, len0, cap0, rfl⟩ := okWide_slice Tryz.underlying22 (hval 0 22 v0 rfl rfl)
  have k0 := h0
  have lt0 : ∀ x ∈ p0, x.block < W.heap.size := by obtain ⟨m, hm⟩ := k0; exact DataW.trod_lt m _ _ _ hm
  obtain ⟨z0, w0⟩ : ∃ zs, IsRowK .u8 W a0 len0 cap0 zs := by
    obtain ⟨fuel, hf⟩ := h0
    rcases open_ints Tryz.underlying22 Tryz.underlying5 (by kernel_rfl) hf with ⟨hcs, _⟩ | ⟨x, l, c, zs, hcs, _, hl, hm, hz, _, hcell, hwz⟩
    · simp [Value.cells] at hcs
      obtain ⟨rfl, rfl, rfl⟩ := hcs
      exact ⟨[], .inl ⟨rfl, rfl, rfl, rfl⟩⟩
    · simp [Value.cells] at hcs
      obtain ⟨rfl, rfl, rfl⟩ := hcs
      exact ⟨zs, .inr ⟨_, rfl, hl, hm, by simpa using hz, hcell, hwz⟩⟩
  clear hA0 hval0
  refine (walk_FnDirections a0 len0 cap0 z0 W w0 (maxlen_cell hshape)).mono fun e W' ⟨he, bel⟩ => ?_
  subst he
  exact ⟨_, rfl, _, _, _, [], _, [], hW', trodAll_mk1 (shut_bool Tryz.underlying4 _), (trodAll_cons_mk (Below.trod laidOut (by kernel_rfl) (of_decide_eq_true (by kernel_rfl)) k0 bel lt0) trodAll_mk0), rfl, bel.frame _, fun h => by cases h⟩

theorem closed : joinedFacts Tryz.checked.prog 6 Tryz.f6 Rows.fnDirectionsSpec Rows.fnDirectionsRow = true := by
  unfold joinedFacts
  simp only [Bool.and_eq_true]
  repeat' (refine And.intro ?_ ?_)
  all_goals first
    | with_reducible exact may_enter
    | (rw [lifts_final]; kernel_rfl)
    | (rw [make_is]; kernel_rfl)
    | kernel_rfl

theorem over : Rows.fnDirectionsRow.holds Tryz.pinned (OpenSpec.ofChange Rows.fnDirectionsSpec) :=
  OpenClaim.holds_of_wide 6 Tryz.f6 rfl rfl rfl rfl rfl rfl rfl ⟨rfl, rfl, rfl, rfl, rfl⟩ rfl rfl rfl rfl rfl (by kernel_rfl) Tryz.func6 closed
    (of_decide_eq_true (by kernel_rfl)) (by unfold Func.isWrapper; first | (rw [if_pos (by decide +kernel)]; kernel_rfl) | (rw [if_neg (by decide +kernel)]; exact ⟨rfl, rfl⟩))
    (fun os started H enc _ => lifted os started H enc)

set_option maxRecDepth 100000 in
theorem proved : Rows.FnDirectionsCardSaid :=
  Claim7.holds_tied_plain_at .later [] [.data, .pinned] true (true, "da0bbe49e90244b4bca7299c92c945dd380898e5a765bea53879b2c96e4deed0") true over (fun _ h => by cases h) (by kernel_rfl) (fun _ h => by cases h) fnDirections_row_tie rfl ⟨rfl, rfl⟩ (by kernel_rfl) rfl
    (fun f fn hf hfn => by
      obtain rfl : f = 6 := Option.some.inj ((show Tryz.prog.funcNamed "loop.example/blockboxes/laws.FnDirections" = some 6 by kernel_rfl).symm.trans hf) |>.symm
      obtain rfl : fn = Tryz.f6 := (Option.some.inj (Tryz.func6.symm.trans hfn)).symm
      exact ⟨by kernel_rfl, fun j t ht => by
        rw [Tryz.params6] at ht
        have hm : t ∈ [22] := by simpa using Array.mem_of_getElem? ht
        have hall : ([22].all fun u => !Tryz.prog.wantsStandIn u) = true := by kernel_rfl
        exact (show Tryz.prog.wantsStandIn t = false by simpa using List.all_eq_true.1 hall t hm)⟩)
    (by kernel_rfl)
#print axioms proved
end Go.Proofs.YthjodagbgmpbhaaGreatDoor.fnDirections
