/-
  For every input the law 'FnTrackBlocks' returns true, and each of its arguments reads behind the call as it read before. Conditions: none beyond those of the row.
-/
import Derived.Test.YtmdkfhbkdeoahaaDoorRows
import Derived.WalkKit
import Derived.ProofKit
import Derived.OpenShut
import Derived.ShutString
import Derived.ChangeOld
import Derived.Below
import Derived.Deep.Matrix
import Derived.Test.YtmdkfhbkdeoahaaDoorIo
import Derived.LaidMore
import Derived.Lay
import Derived.SevenTiedAt
import Derived.Stop.Joined
import Derived.Test.YtmdkfhbkdeoahaaDoorCards
import Derived.Test.YtmdkfhbkdeoahaaDoorTie
import Derived.Test.YtmdkfhbkdeoahaaDoorShp
import Derived.Test.YtmdkfhbkdeoahaaDoorTrkQ
import Derived.Test.YtmdkfhbkdeoahaaDoorDrwA
namespace Go.Proofs.YtmdkfhbkdeoahaaDoor
open Go.RowKit

set_option maxHeartbeats 4000000 in
theorem walk_FnTrackBlocks (a0 : Option Addr) (len0 cap0 : Nat) (z0 : List Int) (w : World) (w0 : IsRowK .u8 w a0 len0 cap0 z0) :
    Calls Tryd.prog 6 #[.slice a0 len0 cap0] w fun e w' => e = .returned (.bool true) ∧ Below w.heap.size w w' := by
  rcases Nat.lt_or_ge 1048576 len0 with hbig | hsm
  · have hb : (1048576 : Int) < (len0 : Int) := by omega
    go_enter Tryd.func6, Tryd.ntmps6
    go_wp2_with fail
    go_ret
    exact ⟨rfl, Below.refl _ _⟩
  have hb : (len0 : Int) ≤ 1048576 := by omega
  have DN := Lib.hid (drawTrackBlocks w0 hsm)
  clear w0
  go_enter Tryd.func6, Tryd.ntmps6
  go_wp2_with (go_at_call 25; refine DN.out.mono ?_)
  rintro e w1 ⟨S, rfl, hS, b1⟩
  have hS2 : S.size ≤ 1048576 := by omega
  have hSi : (S.size : Int) ≤ 100 := by omega
  have IB := implTrackBlocks S hS2
  have SB := specTrackBlocks S hS2
  have TT := implTrackTurn S hS2
  have TF := @tu_facts S
  have BF := @bl_facts S
  have NB := @blT_no S
  obtain ⟨d, hd⟩ : ∃ d, d = blT S := ⟨_, rfl⟩
  obtain ⟨t, ht⟩ : ∃ t, t = trB S := ⟨_, rfl⟩
  simp only [← hd] at IB SB NB BF TF
  rw [← ht] at TT TF BF NB
  have IB := Lib.hid IB
  have SB := Lib.hid SB
  cases t
  · have N := NB rfl
    subst N
    clear TT TF BF NB hd ht
    go_wp2_with (first
      | (go_at_call 14; refine (IB.out _).mono ?_; rintro e w2 ⟨rfl, b2⟩)
      | (go_at_call 26; refine (SB.out _).mono ?_; rintro e w3 ⟨rfl, b3⟩))
    go_ret
    exact ⟨rfl, chain b1 (chain b2 b3)⟩
  obtain ⟨xt, xx, xb, xz⟩ := TF rfl
  obtain ⟨d0, d1, dz⟩ := BF rfl
  have CN := countOf S hS2 49
  obtain ⟨c, hc⟩ : ∃ c, c = cntTo S 49 S.size := ⟨_, rfl⟩
  rw [← hc] at CN dz
  have T2 := implTrackTurn (tuS S) (by omega)
  have B2 := implTrackBlocks (tuS S) (by omega)
  rw [xx, xt] at T2
  rw [xb] at B2
  obtain ⟨X, hX⟩ : ∃ X, X = tuS S := ⟨_, rfl⟩
  rw [← hX] at TT T2 B2
  have TT := Lib.hid TT
  have T2 := Lib.hid T2
  have B2 := Lib.hid B2
  have CN := Lib.hid CN
  have d9 : d ≤ 51 := by omega
  obtain ⟨z, hz⟩ : ∃ z, z = (d == 0) := ⟨_, rfl⟩
  have t1 : (d == 0) = z := hz.symm
  have t2 : (c == 0) = z := by
    rw [hz]
    by_cases q : d = 0
    · have q2 := dz.1 q
      rw [q, q2]
    · have q2 : ¬ c = 0 := fun h => q (dz.2 h)
      rw [beq_eq_false_iff_ne.2 q, beq_eq_false_iff_ne.2 q2]
  have sz := Lib.hid (show (tuS S).size = S.size from xz)
  clear xt xx xb xz dz hX hc hz hd ht NB TF BF
  go_wp2_with (first
    | (go_at_call 14; with_reducible refine (IB.out _).mono ?_; rintro e w2 ⟨rfl, b2⟩)
    | (go_at_call 26; refine (SB.out _).mono ?_; rintro e w3 ⟨rfl, b3⟩)
    | (go_at_call 24; with_reducible refine (TT.out _).mono ?_; rintro e w4 ⟨rfl, b4⟩)
    | (go_at_call 24; with_reducible refine (T2.out _).mono ?_; rintro e w5 ⟨rfl, b5⟩)
    | (go_at_call 14; with_reducible refine (B2.out _).mono ?_; rintro e w6 ⟨rfl, b6⟩)
    | (go_at_call 20; refine (CN.out _).mono ?_; rintro e w7 ⟨rfl, rfl⟩))
  go_ret
  exact ⟨rfl, chain b1 (chain b2 (chain b3 (chain b4 (chain b5 b6))))⟩

end Go.Proofs.YtmdkfhbkdeoahaaDoor

namespace Go.Proofs.YtmdkfhbkdeoahaaDoor.fnTrackBlocks
open Go.ChangeShapes Go.WideShapes Go.ChangeAt Go.RowKit
open Go.ChangeMaps (open_string shut_string)
set_option linter.unusedVariables false

theorem own : ownKnob Tryd.prog.godebug = none := by kernel_rfl
theorem laidOut : laidOutB Tryd.prog = true := by kernel_rfl

abbrev lst : List (String × DataW Unit) := Rows.fnTrackBlocksRow.laid

set_option maxRecDepth 100000 in
theorem lifted (os : Os) (started : os.Started) (H : Type) (enc : TypeId × Value → H) :
    ReturnsInHanded {} Tryd.checked os 6 .any (fun w args => (Rows.fnTrackBlocksSpec.pre enc Tryd.prog Tryd.f6 Rows.fnTrackBlocksRow.domain false w args ∧ laidMetH Tryd.prog lst w) ∧ sizedMet enc Tryd.prog Tryd.f6 (OpenSpec.ofChange Rows.fnTrackBlocksSpec) false w args) (Rows.fnTrackBlocksSpec.post enc Tryd.prog Tryd.f6 false true false false) := by
  refine returns_shaped (C := Tryd.checked) (X := fun w _ => laidMetH Tryd.prog lst w) (fun _ _ _ hh h => h.of_heap hh) own started (by kernel_rfl) Tryd.func6
    (ChangeSpec.witness_shaped (enc := enc) (C := Tryd.checked) (os := os) (X := fun w _ => laidMetH Tryd.prog lst w) false (World.laidAll Tryd.prog os lst) #[.slice none 0 0] 8 (World.laidAll_os _ _ _)
      (World.shaped_of_ZipB (by kernel_rfl) (by kernel_rfl)) (by kernel_rfl) (by kernel_rfl) (by kernel_rfl)
      (by rw [MakeChecks.laidMetH_plain _ _ _ (by kernel_rfl)]; exact laidMet_laidAll _ (by kernel_rfl) (by kernel_rfl))) ?_
  intro W base args ds gs before hshape hval0 hW hcnd _ hL _
  have hval : ∀ (j : Nat) t v, Tryd.f6.params[j]? = some t → args[j]? = some v → Value.okWide Tryd.prog W .any base t v := hval0
  have hW' := hW
  obtain ⟨p, q, hA0, hV, rfl, hfz, hnd⟩ := hW
  have hA : DataW.TrodAll enc Tryd.prog W 0 (fun _ => true) true Tryd.f6.params.toList args.toList ds p := hA0
  rw [Tryd.params6] at hA hval
  obtain ⟨v0, vs0, d0, ds0, p0, q0, hargs, rfl, rfl, h0, r0⟩ := trodAll_cons hA
  obtain ⟨rfl, rfl, rfl⟩ := trodAll_nil r0
  obtain rfl : args = #[v0] := by cases args; simp_all
  obtain ⟨rfl, rfl⟩ := trodVars_none hV
  obtain ⟨a0, len0, cap0, rfl⟩ := okWide_slice Tryd.underlying22 (hval 0 22 v0 rfl rfl)
  have k0 := h0
  have lt0 : ∀ x ∈ p0, x.block < W.heap.size := by obtain ⟨m, hm⟩ := k0; exact DataW.trod_lt m _ _ _ hm
  obtain ⟨z0, w0⟩ : ∃ zs, IsRowK .u8 W a0 len0 cap0 zs := by
    obtain ⟨fuel, hf⟩ := h0
    rcases open_ints Tryd.underlying22 Tryd.underlying5 (by kernel_rfl) hf with ⟨hcs, _⟩ | ⟨x, l, c, zs, hcs, _, hl, hm, hz, _, hcell, hwz⟩
    · simp [Value.cells] at hcs
      obtain ⟨rfl, rfl, rfl⟩ := hcs
      exact ⟨[], .inl ⟨rfl, rfl, rfl, rfl⟩⟩
    · simp [Value.cells] at hcs
      obtain ⟨rfl, rfl, rfl⟩ := hcs
      exact ⟨zs, .inr ⟨_, rfl, hl, hm, by simpa using hz, hcell, hwz⟩⟩
  clear hA0 hval0
  refine (walk_FnTrackBlocks a0 len0 cap0 z0 W w0).mono fun e W' ⟨he, bel⟩ => ?_
  subst he
  exact ⟨_, rfl, _, _, _, [], _, [], hW', trodAll_mk1 (shut_bool Tryd.underlying4 _), (trodAll_cons_mk (Below.trod laidOut (by kernel_rfl) (of_decide_eq_true (by kernel_rfl)) k0 bel lt0) trodAll_mk0), rfl, bel.frame _, fun h => by cases h⟩

theorem closed : joinedFacts Tryd.checked.prog 6 Tryd.f6 Rows.fnTrackBlocksSpec Rows.fnTrackBlocksRow = true := by
  unfold joinedFacts
  simp only [Bool.and_eq_true]
  repeat' (refine And.intro ?_ ?_)
  all_goals first
    | with_reducible exact may_enter
    | (rw [lifts_final]; kernel_rfl)
    | (rw [make_is]; kernel_rfl)
    | kernel_rfl

theorem over : Rows.fnTrackBlocksRow.holds Tryd.pinned (OpenSpec.ofChange Rows.fnTrackBlocksSpec) :=
  OpenClaim.holds_of_wide 6 Tryd.f6 rfl rfl rfl rfl rfl rfl rfl ⟨rfl, rfl, rfl, rfl, rfl⟩ rfl rfl rfl rfl rfl (by kernel_rfl) Tryd.func6 closed
    (of_decide_eq_true (by kernel_rfl)) (by unfold Func.isWrapper; first | (rw [if_pos (by decide +kernel)]; kernel_rfl) | (rw [if_neg (by decide +kernel)]; exact ⟨rfl, rfl⟩))
    (fun os started H enc _ => lifted os started H enc)

set_option maxRecDepth 100000 in
theorem proved : Rows.FnTrackBlocksCardSaid :=
  Claim7.holds_tied_plain_at .later [] [.data, .pinned] true (true, "7b49ea8b61829ad8915aee6b8e88d4118ff3012fc1289881f4e74d4151b6efc2") false over (fun _ h => by cases h) (by kernel_rfl) (fun _ h => by cases h) fnTrackBlocks_row_tie rfl ⟨rfl, rfl⟩ (by kernel_rfl) rfl
    (fun f fn hf hfn => by
      obtain rfl : f = 6 := Option.some.inj ((show Tryd.prog.funcNamed "loop.example/blockboxes/laws.FnTrackBlocks" = some 6 by kernel_rfl).symm.trans hf) |>.symm
      obtain rfl : fn = Tryd.f6 := (Option.some.inj (Tryd.func6.symm.trans hfn)).symm
      exact ⟨by kernel_rfl, fun j t ht => by
        rw [Tryd.params6] at ht
        have hm : t ∈ [22] := by simpa using Array.mem_of_getElem? ht
        have hall : ([22].all fun u => !Tryd.prog.wantsStandIn u) = true := by kernel_rfl
        exact (show Tryd.prog.wantsStandIn t = false by simpa using List.all_eq_true.1 hall t hm)⟩)
    (by kernel_rfl)
#print axioms proved
end Go.Proofs.YtmdkfhbkdeoahaaDoor.fnTrackBlocks
