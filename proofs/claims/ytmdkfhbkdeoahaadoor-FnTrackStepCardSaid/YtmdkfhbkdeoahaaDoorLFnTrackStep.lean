/-
  For every input the law 'FnTrackStep' returns true, and each of its arguments reads behind the call as it read before. Conditions: none beyond those of the row.
-/
import Derived.Test.YtmdkfhbkdeoahaaDoorRows
import Derived.WalkKit
import Derived.ProofKit
import Derived.OpenShut
import Derived.ShutString
import Derived.ChangeOld
import Derived.Below
import Derived.Deep.Matrix
import Derived.Test.YtmdkfhbkdeoahaaDoorIo
import Derived.LaidMore
import Derived.Lay
import Derived.SevenTiedAt
import Derived.Stop.Joined
import Derived.Test.YtmdkfhbkdeoahaaDoorCards
import Derived.Test.YtmdkfhbkdeoahaaDoorTie
import Derived.Test.YtmdkfhbkdeoahaaDoorShp
import Derived.Test.YtmdkfhbkdeoahaaDoorTrkQ
import Derived.Test.YtmdkfhbkdeoahaaDoorDrwB
import Derived.Test.YtmdkfhbkdeoahaaDoorHasI
namespace Go.Proofs.YtmdkfhbkdeoahaaDoor
open Go.RowKit

set_option maxHeartbeats 8000000 in
theorem walk_FnTrackStep (a0 : Option Addr) (len0 cap0 : Nat) (z0 : List Int) (w : World) (w0 : IsRowK .u8 w a0 len0 cap0 z0) :
    Calls Tryd.prog 3 #[.slice a0 len0 cap0] w fun e w' => e = .returned (.bool true) ∧ Below w.heap.size w w' := by
  rcases Nat.lt_or_ge 1048576 len0 with hbig | hsm
  · have hb : (1048576 : Int) < (len0 : Int) := by omega
    go_enter Tryd.func3, Tryd.ntmps3
    go_wp2_with fail
    go_ret
    exact ⟨rfl, Below.refl _ _⟩
  have hb : (len0 : Int) ≤ 1048576 := by omega
  have DN := Lib.hid (drawTrackStep w0 hsm)
  clear w0
  go_enter Tryd.func3, Tryd.ntmps3
  go_wp2_with (go_at_call 11; refine DN.out.mono ?_)
  rintro e w1 ⟨S, i, rfl, hS, b1⟩
  have hS2 : S.size ≤ 1048576 := by omega
  have hSi : (S.size : Int) ≤ 100 := by omega
  have IS := implTrackStep S i hS2
  have SS := specTrackStep S i hS2
  have NO := @spS_no S i
  have FA := @sp_facts S i
  obtain ⟨X, hX⟩ : ∃ X, X = spS S i := ⟨_, rfl⟩
  obtain ⟨t, ht⟩ : ∃ t, t = spB S i := ⟨_, rfl⟩
  rw [← hX, ← ht] at IS SS
  simp only [← hX, ← ht] at NO FA
  have IS := Lib.hid IS
  have SS := Lib.hid SS
  cases t
  · have N := NO rfl
    subst N
    clear hX ht NO FA
    go_wp2_with (first
      | (go_at_call 12; refine (IS.out _).mono ?_; rintro e w2 ⟨rfl, b2⟩)
      | (go_at_call 13; refine (SS.out _).mono ?_; rintro e w3 ⟨rfl, b3⟩))
    go_ret
    exact ⟨rfl, chain b1 (chain b2 b3)⟩
  obtain ⟨k0, hik, hk0, hT, hsz, hXT, hd1, hd2, hbt⟩ := FA rfl
  have IB := implTrackBlocks S hS2
  have IX := implTrackBlocks X (by omega)
  have IN := Lib.hid (implTrackNext S hS2)
  have hl8 := nxT_length S
  have HAS := nx_has (S := S) (i := k0) hk0
  rw [← hik, ← ht] at HAS
  obtain ⟨d, hd⟩ : ∃ d, d = blT S := ⟨_, rfl⟩
  obtain ⟨d', hd'⟩ : ∃ d', d' = blT X := ⟨_, rfl⟩
  have q1 := (bl_facts hT).1
  have q2 := (bl_facts hT).2.1
  have q3 := (bl_facts hXT).1
  have q4 := (bl_facts hXT).2.1
  rw [← hd] at IB q1 q2 hd1 hd2
  rw [← hd'] at IX q3 q4 hd1 hd2
  have IB := Lib.hid IB
  have IX := Lib.hid IX
  have hw : IntKind.i64.wrap (d' - d) = d' - d := IntWalk.i64_in _ (by omega)
  have BT := Lib.hid hbt
  have HSZ := Lib.hid hsz
  have HIK := Lib.hid (show i = (k0 : Int) from hik)
  clear hX ht NO FA hd hd' hT hXT hbt hik hsz
  go_wp2_with (first
    | (go_at_call 12; refine (IS.out _).mono ?_; rintro e w2 ⟨rfl, b2⟩)
    | (go_at_call 13; refine (SS.out _).mono ?_; rintro e w3 ⟨rfl, b3⟩)
    | (go_at_call 14; with_reducible refine (IX.out _).mono ?_; rintro e w4 ⟨rfl, b4⟩)
    | (go_at_call 14; with_reducible refine (IB.out _).mono ?_; rintro e w5 ⟨rfl, b5⟩))
  have C5 := Lib.hid (chain b1 (chain b2 (chain b3 (chain b4 b5))))
  clear b1 b2 b3 b4 b5
  go_loopw [10] (fun i wr => ∃ k : Nat, k ≤ S.size ∧ i = .int .i64 k ∧ Below w5.heap.size w5 wr) (fun i _ => S.size - (intOf i).toNat)
  case atStart => exact ⟨0, by omega, rfl, Below.refl _ _⟩
  case round =>
    obtain ⟨k, hk, rfl, hbel⟩ := hrel
    have BB := Lib.hid hbel
    clear hbel
    by_cases hlt : k < S.size
    · have hki : (k : Int) < (S.size : Int) := by omega
      have hkx : k < X.size := by have := HSZ.out; omega
      have IXS := index_is hlt
      have IXX := index_is hkx
      have BK := BT.out k hlt
      obtain ⟨x, hx⟩ : ∃ x, x = bt X k := ⟨_, rfl⟩
      obtain ⟨y, hy⟩ : ∃ y, y = bt S k := ⟨_, rfl⟩
      rw [← hx] at IXX
      rw [← hy] at IXS
      obtain ⟨b, h1, h2⟩ : ∃ b : Bool, (x != y) = b ∧ ((k : Int) == i) = b := by
        by_cases e : (k : Int) = i
        · exact ⟨true, by rw [hx, hy]; exact bne_iff_ne.2 (BK.2 e), beq_iff_eq.2 e⟩
        · refine ⟨false, ?_, beq_eq_false_iff_ne.2 e⟩
          rw [hx, hy, bne_eq_false_iff_eq]
          by_cases q : bt X k = bt S k
          · exact q
          · exact absurd (BK.1 q) e
      have hbb : (b != b) = false := bne_self_eq_false b
      clear hx hy BK
      go_wp2_with fail
      refine wp_region_quiet_below (by kernel_rfl) (by kernel_rfl) ?_
      repeat (go_big_quiet_step (fail))
      refine wpQuiet_nil ?_
      intro _ hw'
      obtain ⟨⟨dq, osq⟩, hw''⟩ := hw'
      subst hw''
      have B6 := Lib.hid (BB.out.trans ((below_regrown wr dq osq).mono BB.out.size))
      go_wp2_with fail
      go_roundw
      case rel => exact ⟨k + 1, by omega, by go_num, B6.out⟩
      case measure => simp [intOf]; omega
    · obtain rfl : k = S.size := by omega
      have C6 := Lib.hid (chain C5.out BB.out)
      have hxs : ((X.size : Int) == (S.size : Int)) = true := by rw [beq_iff_eq]; have := HSZ.out; omega
      clear hlt
      go_wp2_with (go_at_call 16; refine (IN.out _).mono ?_; rintro e w6 ⟨v6, rfl, o6, b6⟩)
      obtain ⟨a6, n6, c6, rfl⟩ := own_is_slice o6
      have hn6 := o6.ints (by omega)
      have HI := hasInt hn6 i
      rw [HAS] at HI
      have HI := Lib.hid HI
      have C7 := Lib.hid (chain C6.out b6)
      clear b6 o6 hn6 HAS
      go_wp2_with (go_at_call 15; refine HI.out.mono ?_; rintro e w7 ⟨rfl, b7⟩)
      go_ret
      exact ⟨rfl, chain C7.out b7⟩

end Go.Proofs.YtmdkfhbkdeoahaaDoor

namespace Go.Proofs.YtmdkfhbkdeoahaaDoor.fnTrackStep
open Go.ChangeShapes Go.WideShapes Go.ChangeAt Go.RowKit
open Go.ChangeMaps (open_string shut_string)
set_option linter.unusedVariables false

theorem own : ownKnob Tryd.prog.godebug = none := by kernel_rfl
theorem laidOut : laidOutB Tryd.prog = true := by kernel_rfl

abbrev lst : List (String × DataW Unit) := Rows.fnTrackStepRow.laid

set_option maxRecDepth 100000 in
theorem lifted (os : Os) (started : os.Started) (H : Type) (enc : TypeId × Value → H) :
    ReturnsInHanded {} Tryd.checked os 3 .any (fun w args => (Rows.fnTrackStepSpec.pre enc Tryd.prog Tryd.f3 Rows.fnTrackStepRow.domain false w args ∧ laidMetH Tryd.prog lst w) ∧ sizedMet enc Tryd.prog Tryd.f3 (OpenSpec.ofChange Rows.fnTrackStepSpec) false w args) (Rows.fnTrackStepSpec.post enc Tryd.prog Tryd.f3 false true false false) := by
  refine returns_shaped (C := Tryd.checked) (X := fun w _ => laidMetH Tryd.prog lst w) (fun _ _ _ hh h => h.of_heap hh) own started (by kernel_rfl) Tryd.func3
    (ChangeSpec.witness_shaped (enc := enc) (C := Tryd.checked) (os := os) (X := fun w _ => laidMetH Tryd.prog lst w) false (World.laidAll Tryd.prog os lst) #[.slice none 0 0] 8 (World.laidAll_os _ _ _)
      (World.shaped_of_ZipB (by kernel_rfl) (by kernel_rfl)) (by kernel_rfl) (by kernel_rfl) (by kernel_rfl)
      (by rw [MakeChecks.laidMetH_plain _ _ _ (by kernel_rfl)]; exact laidMet_laidAll _ (by kernel_rfl) (by kernel_rfl))) ?_
  intro W base args ds gs before hshape hval0 hW hcnd _ hL _
  have hval : ∀ (j : Nat) t v, Tryd.f3.params[j]? = some t → args[j]? = some v → Value.okWide Tryd.prog W .any base t v := hval0
  have hW' := hW
  obtain ⟨p, q, hA0, hV, rfl, hfz, hnd⟩ := hW
  have hA : DataW.TrodAll enc Tryd.prog W 0 (fun _ => true) true Tryd.f3.params.toList args.toList ds p := hA0
  rw [Tryd.params3] at hA hval
  obtain ⟨v0, vs0, d0, ds0, p0, q0, hargs, rfl, rfl, h0, r0⟩ := trodAll_cons hA
  obtain ⟨rfl, rfl, rfl⟩ := trodAll_nil r0
  obtain rfl : args = #[v0] := by cases args; simp_all
  obtain ⟨rfl, rfl⟩ := trodVars_none hV
  obtain ⟨a0, len0, cap0, rfl⟩ := okWide_slice Tryd.underlying22 (hval 0 22 v0 rfl rfl)
  have k0 := h0
  have lt0 : ∀ x ∈ p0, x.block < W.heap.size := by obtain ⟨m, hm⟩ := k0; exact DataW.trod_lt m _ _ _ hm
  obtain ⟨z0, w0⟩ : ∃ zs, IsRowK .u8 W a0 len0 cap0 zs := by
    obtain ⟨fuel, hf⟩ := h0
    rcases open_ints Tryd.underlying22 Tryd.underlying5 (by kernel_rfl) hf with ⟨hcs, _⟩ | ⟨x, l, c, zs, hcs, _, hl, hm, hz, _, hcell, hwz⟩
    · simp [Value.cells] at hcs
      obtain ⟨rfl, rfl, rfl⟩ := hcs
      exact ⟨[], .inl ⟨rfl, rfl, rfl, rfl⟩⟩
    · simp [Value.cells] at hcs
      obtain ⟨rfl, rfl, rfl⟩ := hcs
      exact ⟨zs, .inr ⟨_, rfl, hl, hm, by simpa using hz, hcell, hwz⟩⟩
  clear hA0 hval0
  refine (walk_FnTrackStep a0 len0 cap0 z0 W w0).mono fun e W' ⟨he, bel⟩ => ?_
  subst he
  exact ⟨_, rfl, _, _, _, [], _, [], hW', trodAll_mk1 (shut_bool Tryd.underlying4 _), (trodAll_cons_mk (Below.trod laidOut (by kernel_rfl) (of_decide_eq_true (by kernel_rfl)) k0 bel lt0) trodAll_mk0), rfl, bel.frame _, fun h => by cases h⟩

theorem closed : joinedFacts Tryd.checked.prog 3 Tryd.f3 Rows.fnTrackStepSpec Rows.fnTrackStepRow = true := by
  unfold joinedFacts
  simp only [Bool.and_eq_true]
  repeat' (refine And.intro ?_ ?_)
  all_goals first
    | with_reducible exact may_enter
    | (rw [lifts_final]; kernel_rfl)
    | (rw [make_is]; kernel_rfl)
    | kernel_rfl

theorem over : Rows.fnTrackStepRow.holds Tryd.pinned (OpenSpec.ofChange Rows.fnTrackStepSpec) :=
  OpenClaim.holds_of_wide 3 Tryd.f3 rfl rfl rfl rfl rfl rfl rfl ⟨rfl, rfl, rfl, rfl, rfl⟩ rfl rfl rfl rfl rfl (by kernel_rfl) Tryd.func3 closed
    (of_decide_eq_true (by kernel_rfl)) (by unfold Func.isWrapper; first | (rw [if_pos (by decide +kernel)]; kernel_rfl) | (rw [if_neg (by decide +kernel)]; exact ⟨rfl, rfl⟩))
    (fun os started H enc _ => lifted os started H enc)

set_option maxRecDepth 100000 in
theorem proved : Rows.FnTrackStepCardSaid :=
  Claim7.holds_tied_plain_at .later [] [.data, .pinned] true (true, "7b49ea8b61829ad8915aee6b8e88d4118ff3012fc1289881f4e74d4151b6efc2") false over (fun _ h => by cases h) (by kernel_rfl) (fun _ h => by cases h) fnTrackStep_row_tie rfl ⟨rfl, rfl⟩ (by kernel_rfl) rfl
    (fun f fn hf hfn => by
      obtain rfl : f = 3 := Option.some.inj ((show Tryd.prog.funcNamed "loop.example/blockboxes/laws.FnTrackStep" = some 3 by kernel_rfl).symm.trans hf) |>.symm
      obtain rfl : fn = Tryd.f3 := (Option.some.inj (Tryd.func3.symm.trans hfn)).symm
      exact ⟨by kernel_rfl, fun j t ht => by
        rw [Tryd.params3] at ht
        have hm : t ∈ [22] := by simpa using Array.mem_of_getElem? ht
        have hall : ([22].all fun u => !Tryd.prog.wantsStandIn u) = true := by kernel_rfl
        exact (show Tryd.prog.wantsStandIn t = false by simpa using List.all_eq_true.1 hall t hm)⟩)
    (by kernel_rfl)
#print axioms proved
end Go.Proofs.YtmdkfhbkdeoahaaDoor.fnTrackStep
