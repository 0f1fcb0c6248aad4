/-
  For every input the law 'FnTokenTrains' returns true, and each of its arguments reads behind the call as it read before. Conditions: none beyond those of the row.
-/
import Derived.Test.YthjodagbgmpbhaaGreatDoorRows
import Derived.WalkKit
import Derived.ProofKit
import Derived.OpenShut
import Derived.ShutString
import Derived.ChangeOld
import Derived.Below
import Derived.Deep.Matrix
import Derived.Test.YthjodagbgmpbhaaGreatDoorIo
import Derived.LaidMore
import Derived.Lay
import Derived.SevenTiedAt
import Derived.Stop.Joined
import Derived.Test.YthjodagbgmpbhaaGreatDoorCards
import Derived.Test.YthjodagbgmpbhaaGreatDoorTie
import Derived.Test.YthjodagbgmpbhaaGreatDoorShp
import Derived.Test.YthjodagbgmpbhaaGreatDoorTrn
import Derived.Test.YthjodagbgmpbhaaGreatDoorDirC
import Derived.Test.YthjodagbgmpbhaaGreatDoorDrawA
import Derived.Lib.QuietBelow
import Derived.BigQuiet
namespace Go.Proofs.YthjodagbgmpbhaaGreatDoor
open Go.RowKit

open Go.Sort

set_option maxRecDepth 100000 in
set_option maxHeartbeats 8000000 in
theorem walk_FnTokenTrains (a0 : Option Addr) (len0 cap0 : Nat) (z0 : List Int) (w : World) (w0 : IsRowK .u8 w a0 len0 cap0 z0) :
    Calls Tryz.prog 3 #[.slice a0 len0 cap0] w fun e w' => e = .returned (.bool true) ∧ Below w.heap.size w w' := by
  rcases Nat.lt_or_ge 1048576 len0 with hbig | hsm
  · have hb : (1048576 : Int) < (len0 : Int) := by omega
    go_enter Tryz.func3, Tryz.ntmps3
    go_wp2_with fail
    go_ret
    exact ⟨rfl, Below.refl _ _⟩
  have hb : (len0 : Int) ≤ 1048576 := by omega
  have DN := Lib.hid (drawTrains w0 hsm)
  clear w0
  go_enter Tryz.func3, Tryz.ntmps3
  go_wp2_with (go_at_call 8; refine DN.out.mono ?_)
  rintro e w1 ⟨S, rfl, hS, b1⟩
  have B1 := Lib.hid b1
  have IT := implTrains S (by omega)
  have ST := specTrains S (by omega)
  obtain ⟨o, ho⟩ : ∃ o, o = trOk S := ⟨_, rfl⟩
  rw [← ho] at IT ST
  clear b1 DN
  cases o
  · rw [tr_no ho.symm] at IT ST
    have IT := Lib.hid IT
    have ST := Lib.hid ST
    clear ho
    go_wp2_with (go_at_call 9; refine (IT.out _).mono ?_)
    rintro e w2 ⟨rfl, b2⟩
    go_wp2_with (go_at_call 10; refine (ST.out _).mono ?_)
    rintro e w3 ⟨rfl, b3⟩
    go_wp2_with fail
    go_ret
    exact ⟨rfl, chain B1.out (chain b2 b3)⟩
  rw [tr_yes ho.symm] at IT ST
  have hv : dirB S = true ∧ 2 * S.size ≤ 30 := by
    have h := ho.symm
    unfold trOk at h
    rw [Bool.and_eq_true, decide_eq_true_iff] at h
    exact h
  obtain ⟨hd, h15⟩ := hv
  have hts := ttTo_size (S := S) (k := S.size) (Nat.le_refl _)
  have IN := implNeeds S (by omega)
  rw [hd] at IN
  have rg := nd_range S
  have RY := Lib.hid (fun (x y : Int) (hx : 0 ≤ x) (hy : 0 ≤ y) (hxy : x + y ≤ 12) => tt_run hd h15 hx hy hxy)
  have RN := Lib.hid (fun (x y : Int) (h : x < 0 ∨ y < 0) => tt_bad (S := S) h)
  have bc := bal_cnt (dirB_of hd).2 S.size (Nat.le_refl _)
  have C85 := countOf S (by omega) 85
  have C68 := countOf S (by omega) 68
  have r85 := cntTo_range S 85 S.size
  have r68 := cntTo_range S 68 S.size
  obtain ⟨A, hA⟩ : ∃ A, A = ttTo S S.size := ⟨_, rfl⟩
  obtain ⟨x, hx⟩ : ∃ c, c = ndA S := ⟨_, rfl⟩
  obtain ⟨y, hy⟩ : ∃ c, c = ndB S := ⟨_, rfl⟩
  obtain ⟨cu, hcu⟩ : ∃ c, c = cntTo S 85 S.size := ⟨_, rfl⟩
  obtain ⟨cd, hcd⟩ : ∃ c, c = cntTo S 68 S.size := ⟨_, rfl⟩
  rw [bc] at RY
  rw [← hA] at IT ST hts RY RN
  rw [← hx, ← hy] at IN rg RY
  rw [← hcu] at C85 r85 RY
  rw [← hcd] at C68 r68 RY
  obtain ⟨⟨x0, x30⟩, y0, y30⟩ := rg
  obtain ⟨u0, u1⟩ := r85
  obtain ⟨d0, d1⟩ := r68
  replace IT := Lib.hid IT
  replace ST := Lib.hid ST
  replace IN := Lib.hid IN
  replace C85 := Lib.hid C85
  replace C68 := Lib.hid C68
  have hSI : (S.size : Int) ≤ 15 := by omega
  clear ho hd h15 bc hA hx hy hcu hcd
  go_wp2_with (go_at_call 9; refine (IT.out _).mono ?_)
  rintro e w2 ⟨rfl, b2⟩
  go_wp2_with (go_at_call 10; refine (ST.out _).mono ?_)
  rintro e w3 ⟨rfl, b3⟩
  have B3 := Lib.hid (chain B1.out (chain b2 b3))
  clear b2 b3
  go_wp2_with (go_at_call 11; refine (IN.out _).mono ?_)
  rintro e w4 ⟨rfl, b4⟩
  have B4 := Lib.hid (chain B3.out b4)
  clear b4
  by_cases h12 : 12 < x + y
  · go_wp2_with fail
    go_ret
    exact ⟨rfl, B4.out⟩
  have hxy : x + y ≤ 12 := by omega
  have e1 : tkRun (x, y, 0) A = some (x - cu + cd, y + cu - cd, 0) := by
    rw [RY.out x y x0 y0 hxy, if_pos ⟨Int.le_refl _, Int.le_refl _⟩, show x - (cu - cd) = x - cu + cd by omega, show y + (cu - cd) = y + cu - cd by omega]
  have e2 : tkRun (x - 1, y, 0) A = none := by
    by_cases z : x = 0
    · exact RN.out _ _ (.inl (by omega))
    · rw [RY.out (x - 1) y (by omega) y0 (by omega), if_neg (fun q => by omega)]
  have e3 : tkRun (x, y - 1, 0) A = none := by
    by_cases z : y = 0
    · exact RN.out _ _ (.inr (by omega))
    · rw [RY.out x (y - 1) x0 (by omega) (by omega), if_neg (fun q => by omega)]
  have R1 := implTokenRunE (x, y, 0) A (by unfold tkFits; simp only; omega) (by omega)
  have R2 := implTokenRunE (x - 1, y, 0) A (by unfold tkFits; simp only; omega) (by omega)
  have R3 := implTokenRunE (x, y - 1, 0) A (by unfold tkFits; simp only; omega) (by omega)
  rw [e1] at R1
  rw [e2] at R2
  rw [e3] at R3
  unfold tkV at R1 R2 R3
  simp only [Option.getD_some, Option.isSome_some, Option.getD_none, Option.isSome_none, nt] at R1 R2 R3
  replace R1 := Lib.hid R1
  replace R2 := Lib.hid R2
  replace R3 := Lib.hid R3
  clear e1 e2 e3 RY RN hts
  go_wp2_with (go_at_call 12; refine (R1.out _).mono ?_)
  rintro e w5 ⟨rfl, b5⟩
  have q5 := below_alloc w5 (.cells #[.int .i64 (x - cu + cd), .int .i64 (y + cu - cd), .int .i64 0] 29)
  have t5 := Tri3.new w5 (.int .i64 (x - cu + cd)) (.int .i64 (y + cu - cd)) (.int .i64 0) 29
  obtain ⟨W5, hW5⟩ : ∃ X, X = w5.alloc (.cells #[.int .i64 (x - cu + cd), .int .i64 (y + cu - cd), .int .i64 0] 29) := ⟨_, rfl⟩
  rw [← hW5] at q5 t5
  have HW5 := Lib.hid hW5.symm
  have C5 := Lib.hid (chain B4.out (chain b5 q5))
  clear hW5 q5 b5
  go_upto_region 12 with fail
  rw [HW5.out]
  go_wp2_with (go_at_call 12; refine (R2.out _).mono ?_)
  rintro e w6 ⟨rfl, b6⟩
  have q6 := below_alloc w6 (.cells #[.int .i64 0, .int .i64 0, .int .i64 0] 29)
  have t6 := (t5.below b6).below q6
  obtain ⟨W6, hW6⟩ : ∃ X, X = w6.alloc (.cells #[.int .i64 0, .int .i64 0, .int .i64 0] 29) := ⟨_, rfl⟩
  rw [← hW6] at q6 t6
  have HW6 := Lib.hid hW6.symm
  have C6 := Lib.hid (chain C5.out (chain b6 q6))
  clear hW6 q6 b6 t5
  go_upto_region 13 with fail
  rw [HW6.out]
  go_wp2_with (go_at_call 12; refine (R3.out _).mono ?_)
  rintro e w7 ⟨rfl, b7⟩
  have q7 := below_alloc w7 (.cells #[.int .i64 0, .int .i64 0, .int .i64 0] 29)
  have t7 := (t6.below b7).below q7
  obtain ⟨W7, hW7⟩ : ∃ X, X = w7.alloc (.cells #[.int .i64 0, .int .i64 0, .int .i64 0] 29) := ⟨_, rfl⟩
  rw [← hW7] at q7 t7
  have HW7 := Lib.hid hW7.symm
  have C7 := Lib.hid (chain C6.out (chain b7 q7))
  clear hW7 q7 b7 t6
  go_upto_region 14 with fail
  rw [HW7.out]
  have l0 := t7.cell0
  have l1 := t7.cell1
  have l2 := t7.cell2
  go_wp2_with (first
    | (go_at_call_of 13 (Value.int .u8 85); refine (C85.out _).mono ?_; rintro e w' ⟨rfl, rfl⟩)
    | (go_at_call_of 13 (Value.int .u8 68); refine (C68.out _).mono ?_; rintro e w' ⟨rfl, rfl⟩))
  go_ret
  exact ⟨by simp, C7.out⟩

end Go.Proofs.YthjodagbgmpbhaaGreatDoor

namespace Go.Proofs.YthjodagbgmpbhaaGreatDoor.fnTokenTrains
open Go.ChangeShapes Go.WideShapes Go.ChangeAt Go.RowKit
open Go.ChangeMaps (open_string shut_string)
set_option linter.unusedVariables false

theorem own : ownKnob Tryz.prog.godebug = none := by kernel_rfl
theorem laidOut : laidOutB Tryz.prog = true := by kernel_rfl

abbrev lst : List (String × DataW Unit) := Rows.fnTokenTrainsRow.laid

set_option maxRecDepth 100000 in
theorem lifted (os : Os) (started : os.Started) (H : Type) (enc : TypeId × Value → H) :
    ReturnsInHanded {} Tryz.checked os 3 .any (fun w args => (Rows.fnTokenTrainsSpec.pre enc Tryz.prog Tryz.f3 Rows.fnTokenTrainsRow.domain false w args ∧ laidMetH Tryz.prog lst w) ∧ sizedMet enc Tryz.prog Tryz.f3 (OpenSpec.ofChange Rows.fnTokenTrainsSpec) false w args) (Rows.fnTokenTrainsSpec.post enc Tryz.prog Tryz.f3 false true false false) := by
  refine returns_shaped (C := Tryz.checked) (X := fun w _ => laidMetH Tryz.prog lst w) (fun _ _ _ hh h => h.of_heap hh) own started (by kernel_rfl) Tryz.func3
    (ChangeSpec.witness_shaped (enc := enc) (C := Tryz.checked) (os := os) (X := fun w _ => laidMetH Tryz.prog lst w) false (World.laidAll Tryz.prog os lst) #[.slice none 0 0] 8 (World.laidAll_os _ _ _)
      (World.shaped_of_ZipB (by kernel_rfl) (by kernel_rfl)) (by kernel_rfl) (by kernel_rfl) (by kernel_rfl)
      (by rw [MakeChecks.laidMetH_plain _ _ _ (by kernel_rfl)]; exact laidMet_laidAll _ (by kernel_rfl) (by kernel_rfl))) ?_
  intro W base args ds gs before hshape hval0 hW hcnd _ hL _
  have hval : ∀ (j : Nat) t v, Tryz.f3.params[j]? = some t → args[j]? = some v → Value.okWide Tryz.prog W .any base t v := hval0
  have hW' := hW
  obtain ⟨p, q, hA0, hV, rfl, hfz, hnd⟩ := hW
  have hA : DataW.TrodAll enc Tryz.prog W 0 (fun _ => true) true Tryz.f3.params.toList args.toList ds p := hA0
  rw [Tryz.params3] at hA hval
  obtain ⟨v0, vs0, d0, ds0, p0, q0, hargs, rfl, rfl, h0, r0⟩ := trodAll_cons hA
  obtain ⟨rfl, rfl, rfl⟩ := trodAll_nil r0
  obtain rfl : args = #[v0] := by cases args; simp_all
  obtain ⟨rfl, rfl⟩ := trodVars_none hV
  obtain ⟨a0, len0, cap0, rfl⟩ := okWide_slice Tryz.underlying22 (hval 0 22 v0 rfl rfl)
  have k0 := h0
  have lt0 : ∀ x ∈ p0, x.block < W.heap.size := by obtain ⟨m, hm⟩ := k0; exact DataW.trod_lt m _ _ _ hm
  obtain ⟨z0, w0⟩ : ∃ zs, IsRowK .u8 W a0 len0 cap0 zs := by
    obtain ⟨fuel, hf⟩ := h0
    rcases open_ints Tryz.underlying22 Tryz.underlying5 (by kernel_rfl) hf with ⟨hcs, _⟩ | ⟨x, l, c, zs, hcs, _, hl, hm, hz, _, hcell, hwz⟩
    · simp [Value.cells] at hcs
      obtain ⟨rfl, rfl, rfl⟩ := hcs
      exact ⟨[], .inl ⟨rfl, rfl, rfl, rfl⟩⟩
    · simp [Value.cells] at hcs
      obtain ⟨rfl, rfl, rfl⟩ := hcs
      exact ⟨zs, .inr ⟨_, rfl, hl, hm, by simpa using hz, hcell, hwz⟩⟩
  clear hA0 hval0
  refine (walk_FnTokenTrains a0 len0 cap0 z0 W w0).mono fun e W' ⟨he, bel⟩ => ?_
  subst he
  exact ⟨_, rfl, _, _, _, [], _, [], hW', trodAll_mk1 (shut_bool Tryz.underlying4 _), (trodAll_cons_mk (Below.trod laidOut (by kernel_rfl) (of_decide_eq_true (by kernel_rfl)) k0 bel lt0) trodAll_mk0), rfl, bel.frame _, fun h => by cases h⟩

theorem closed : joinedFacts Tryz.checked.prog 3 Tryz.f3 Rows.fnTokenTrainsSpec Rows.fnTokenTrainsRow = true := by
  unfold joinedFacts
  simp only [Bool.and_eq_true]
  repeat' (refine And.intro ?_ ?_)
  all_goals first
    | with_reducible exact may_enter
    | (rw [lifts_final]; kernel_rfl)
    | (rw [make_is]; kernel_rfl)
    | kernel_rfl

theorem over : Rows.fnTokenTrainsRow.holds Tryz.pinned (OpenSpec.ofChange Rows.fnTokenTrainsSpec) :=
  OpenClaim.holds_of_wide 3 Tryz.f3 rfl rfl rfl rfl rfl rfl rfl ⟨rfl, rfl, rfl, rfl, rfl⟩ rfl rfl rfl rfl rfl (by kernel_rfl) Tryz.func3 closed
    (of_decide_eq_true (by kernel_rfl)) (by unfold Func.isWrapper; first | (rw [if_pos (by decide +kernel)]; kernel_rfl) | (rw [if_neg (by decide +kernel)]; exact ⟨rfl, rfl⟩))
    (fun os started H enc _ => lifted os started H enc)

set_option maxRecDepth 100000 in
theorem proved : Rows.FnTokenTrainsCardSaid :=
  Claim7.holds_tied_plain_at .later [] [.data, .pinned] true (true, "da0bbe49e90244b4bca7299c92c945dd380898e5a765bea53879b2c96e4deed0") true over (fun _ h => by cases h) (by kernel_rfl) (fun _ h => by cases h) fnTokenTrains_row_tie rfl ⟨rfl, rfl⟩ (by kernel_rfl) rfl
    (fun f fn hf hfn => by
      obtain rfl : f = 3 := Option.some.inj ((show Tryz.prog.funcNamed "loop.example/blockboxes/laws.FnTokenTrains" = some 3 by kernel_rfl).symm.trans hf) |>.symm
      obtain rfl : fn = Tryz.f3 := (Option.some.inj (Tryz.func3.symm.trans hfn)).symm
      exact ⟨by kernel_rfl, fun j t ht => by
        rw [Tryz.params3] at ht
        have hm : t ∈ [22] := by simpa using Array.mem_of_getElem? ht
        have hall : ([22].all fun u => !Tryz.prog.wantsStandIn u) = true := by kernel_rfl
        exact (show Tryz.prog.wantsStandIn t = false by simpa using List.all_eq_true.1 hall t hm)⟩)
    (by kernel_rfl)
#print axioms proved
end Go.Proofs.YthjodagbgmpbhaaGreatDoor.fnTokenTrains
