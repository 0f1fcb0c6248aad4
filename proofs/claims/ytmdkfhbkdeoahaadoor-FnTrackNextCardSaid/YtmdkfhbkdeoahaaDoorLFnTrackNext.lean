/-
  For every input the law 'FnTrackNext' returns true, and each of its arguments reads behind the call as it read before. Conditions: none beyond those of the row.
-/
import Derived.Test.YtmdkfhbkdeoahaaDoorRows
import Derived.WalkKit
import Derived.ProofKit
import Derived.OpenShut
import Derived.ShutString
import Derived.ChangeOld
import Derived.Below
import Derived.Deep.Matrix
import Derived.Test.YtmdkfhbkdeoahaaDoorIo
import Derived.LaidMore
import Derived.Lay
import Derived.SevenTiedAt
import Derived.Stop.Joined
import Derived.Test.YtmdkfhbkdeoahaaDoorCards
import Derived.Test.YtmdkfhbkdeoahaaDoorTie
import Derived.Test.YtmdkfhbkdeoahaaDoorShp
import Derived.Test.YtmdkfhbkdeoahaaDoorTrkQ
import Derived.Test.YtmdkfhbkdeoahaaDoorDrwA
import Derived.Test.YtmdkfhbkdeoahaaDoorSameL
import Derived.Test.YtmdkfhbkdeoahaaDoorHasI
namespace Go.Proofs.YtmdkfhbkdeoahaaDoor
open Go.RowKit

set_option maxHeartbeats 4000000 in
theorem walk_FnTrackNext (a0 : Option Addr) (len0 cap0 : Nat) (z0 : List Int) (w : World) (w0 : IsRowK .u8 w a0 len0 cap0 z0) :
    Calls Tryd.prog 4 #[.slice a0 len0 cap0] w fun e w' => e = .returned (.bool true) ∧ Below w.heap.size w w' := by
  rcases Nat.lt_or_ge 1048576 len0 with hbig | hsm
  · have hb : (1048576 : Int) < (len0 : Int) := by omega
    go_enter Tryd.func4, Tryd.ntmps4
    go_wp2_with fail
    go_ret
    exact ⟨rfl, Below.refl _ _⟩
  have hb : (len0 : Int) ≤ 1048576 := by omega
  have DN := Lib.hid (drawTrackNext w0 hsm)
  clear w0
  go_enter Tryd.func4, Tryd.ntmps4
  go_wp2_with (go_at_call 17; refine DN.out.mono ?_)
  rintro e w1 ⟨S, rfl, hS, b1⟩
  have hS2 : S.size ≤ 1048576 := by omega
  have hSi : (S.size : Int) ≤ 100 := by omega
  have IB := Lib.hid (implTrackNext S hS2)
  have SB := Lib.hid (specTrackNext S hS2)
  have ST := Lib.hid (fun (i : Int) (w : World) => implTrackStep S i hS2 w)
  have HS := Lib.hid (fun (i : Nat) (hi : i < S.size) => nx_has hi)
  have CN := Lib.hid (countOf S hS2 49)
  have hcr := cntTo_range S 49 S.size
  have hl8 := nxT_length S
  have NF := Lib.hid (fun h : trB S = true => nx_facts h)
  have NN := Lib.hid (@nxT_no S)
  obtain ⟨xs, hxs⟩ : ∃ xs, xs = nxT S := ⟨_, rfl⟩
  obtain ⟨c, hc⟩ : ∃ c, c = cntTo S 49 S.size := ⟨_, rfl⟩
  rw [← hxs] at IB SB hl8 HS NF NN
  rw [← hc] at CN NF hcr
  clear hxs hc
  go_wp2_with (go_at_call 16; refine (IB.out _).mono ?_)
  rintro e w2 ⟨v2, rfl, o2, b2⟩
  obtain ⟨a2, n2, c2, rfl⟩ := own_is_slice o2
  have hn2 := o2.ints (by omega)
  obtain ⟨_, _, e2, -⟩ := id hn2
  simp only [Value.slice.injEq] at e2
  obtain ⟨-, rfl, -⟩ := e2
  have C2 := Lib.hid (chain b1 b2)
  go_wp2_with (go_at_call 18; refine (SB.out _).mono ?_)
  rintro e w3 ⟨v3, rfl, o3, b3⟩
  have C3 := Lib.hid (chain C2.out b3)
  have i2 := hn2.below b3
  have i3 := o3.ints (by omega)
  have hli : (xs.length : Int) ≤ 8 := by omega
  have SM := sameInts i2 i3
  rw [decide_eq_true rfl] at SM
  have SM := Lib.hid SM
  have I2 := Lib.hid i2
  have I3 := Lib.hid i3
  clear b3 o2 o3 i2 i3 hn2 b1 b2
  by_cases h0 : xs.length = 0
  · have t0 : ((xs.length : Int) == 0) = true := by rw [h0]; rfl
    clear h0
    go_wp2_with (first
      | (go_at_call 19; refine SM.out.mono ?_)
      | fail)
    rintro e w4 ⟨rfl, b4⟩
    have SM2 := sameInts (I2.out.below b4) (I3.out.below b4)
    rw [decide_eq_true rfl] at SM2
    have SM2 := Lib.hid SM2
    go_wp2_with (go_at_call 19; refine SM2.out.mono ?_; rintro e w5 ⟨rfl, b5⟩)
    go_ret
    exact ⟨rfl, chain C3.out (chain b4 b5)⟩
  have ht : trB S = true := by
    cases e : trB S
    · have := NN.out e
      rw [this] at h0
      exact absurd rfl h0
    · rfl
  obtain ⟨N1, N2⟩ := NF.out ht
  have N1 := Lib.hid N1
  have N2 := Lib.hid N2
  have t0 : ((xs.length : Int) == 0) = false := beq_eq_false_iff_ne.2 (by omega)
  obtain ⟨c0, c1⟩ := hcr
  clear h0 ht NF NN
  go_wp2_with (first
    | (go_at_call 19; refine SM.out.mono ?_; rintro e w4 ⟨rfl, b4⟩)
    | (go_at_call 20; refine (CN.out _).mono ?_; rintro e w5 ⟨rfl, rfl⟩))
  have C4 := Lib.hid (chain C3.out b4)
  have I4 := Lib.hid (I2.out.below b4)
  clear b4
  go_loopw [7, 8, 9] (fun i _ _ wr => ∃ k : Nat, k ≤ S.size ∧ i = .int .i64 k ∧ Below w4.heap.size w4 wr) (fun i _ _ _ => S.size - (intOf i).toNat)
  case atStart => exact ⟨0, by omega, rfl, Below.refl _ _⟩
  case round =>
    obtain ⟨k, hk, rfl, hbel⟩ := hrel
    have BB := Lib.hid hbel
    have I5 := Lib.hid (I4.out.below hbel)
    clear hbel
    by_cases hlt : k < S.size
    · have hki : (k : Int) < (S.size : Int) := by omega
      have SK := ST.out k
      have HI := fun (X : World) (b : Below wr.heap.size wr X) => hasInt (I5.out.below b) k
      rw [HS.out k hlt] at HI
      obtain ⟨X, hX⟩ : ∃ X, X = spS S k := ⟨_, rfl⟩
      obtain ⟨r, hr⟩ : ∃ r, r = spB S k := ⟨_, rfl⟩
      rw [← hX, ← hr] at SK
      simp only [← hr] at HI
      have SK := Lib.hid SK
      have HI := Lib.hid HI
      clear hX hr
      go_wp2_with (first
        | (go_at_call 12; refine (SK.out _).mono ?_; rintro e w5 ⟨rfl, b5⟩)
        | (go_at_call 15; refine (HI.out _ b5).mono ?_; rintro e w6 ⟨rfl, b6⟩))
      have B5 := Lib.hid (BB.out.trans ((chain b5 b6).mono BB.out.size))
      clear b5 b6
      go_roundw
      case rel => exact ⟨k + 1, by omega, by go_num, B5.out⟩
      case measure => simp [intOf]; omega
    · obtain rfl : k = S.size := by omega
      by_cases hz : c = 0
      · subst hz
        have en : xs = [0] := N1.out rfl
        have hnw := below_alloc wr (.cells #[.int .i64 0] 3)
        have hn0 : (wr.alloc (.cells #[.int .i64 0] 3)).heap[wr.heap.size]? = some (.cells #[.int .i64 0] 3 (0, 0)) := Go.Deep.blk_alloc_new _ _
        have i0 : Ints (wr.alloc (.cells #[.int .i64 0] 3)) (.slice (some ⟨wr.heap.size, 0, none⟩) 1 1) [0] := by
          refine ⟨_, 1, rfl, ⟨by simp, by simp⟩, .inr ⟨wr.heap.size, 0, rfl, (Array.getElem?_eq_some_iff.1 hn0).1, fun i hi => ?_⟩⟩
          obtain rfl : i = 0 := by simpa using hi
          simp only [World.cell?, hn0]
          rfl
        have SM3 := sameInts (I5.out.below hnw) i0
        rw [decide_eq_true en] at SM3
        have e1 : xs.length = 1 := by rw [en]; rfl
        rw [e1] at SM3
        have SM3 := Lib.hid SM3
        have BW := Lib.hid (chain (chain C4.out BB.out) hnw)
        clear hn0 i0 hnw e1
        subst en
        go_wp2_with (go_at_call 19; refine SM3.out.mono ?_; rintro e w7 ⟨rfl, b7⟩)
        go_ret
        exact ⟨rfl, BW.out.trans (b7.mono BW.out.size)⟩
      · have tz : (c == 0) = false := beq_eq_false_iff_ne.2 hz
        clear hz
        by_cases hlt2 : c < (S.size : Int)
        · go_wp2_with fail
          go_ret
          exact ⟨rfl, chain C4.out BB.out⟩
        · have hl : ((xs.length : Int) == (S.size : Int)) = true := by rw [beq_iff_eq]; rcases N2.out with h | h <;> omega
          have hlt3 : decide (c < (S.size : Int)) = false := decide_eq_false hlt2
          clear hlt2
          go_wp2_with fail
          go_ret
          exact ⟨rfl, chain C4.out BB.out⟩

end Go.Proofs.YtmdkfhbkdeoahaaDoor

namespace Go.Proofs.YtmdkfhbkdeoahaaDoor.fnTrackNext
open Go.ChangeShapes Go.WideShapes Go.ChangeAt Go.RowKit
open Go.ChangeMaps (open_string shut_string)
set_option linter.unusedVariables false

theorem own : ownKnob Tryd.prog.godebug = none := by kernel_rfl
theorem laidOut : laidOutB Tryd.prog = true := by kernel_rfl

abbrev lst : List (String × DataW Unit) := Rows.fnTrackNextRow.laid

set_option maxRecDepth 100000 in
theorem lifted (os : Os) (started : os.Started) (H : Type) (enc : TypeId × Value → H) :
    ReturnsInHanded {} Tryd.checked os 4 .any (fun w args => (Rows.fnTrackNextSpec.pre enc Tryd.prog Tryd.f4 Rows.fnTrackNextRow.domain false w args ∧ laidMetH Tryd.prog lst w) ∧ sizedMet enc Tryd.prog Tryd.f4 (OpenSpec.ofChange Rows.fnTrackNextSpec) false w args) (Rows.fnTrackNextSpec.post enc Tryd.prog Tryd.f4 false true false false) := by
  refine returns_shaped (C := Tryd.checked) (X := fun w _ => laidMetH Tryd.prog lst w) (fun _ _ _ hh h => h.of_heap hh) own started (by kernel_rfl) Tryd.func4
    (ChangeSpec.witness_shaped (enc := enc) (C := Tryd.checked) (os := os) (X := fun w _ => laidMetH Tryd.prog lst w) false (World.laidAll Tryd.prog os lst) #[.slice none 0 0] 8 (World.laidAll_os _ _ _)
      (World.shaped_of_ZipB (by kernel_rfl) (by kernel_rfl)) (by kernel_rfl) (by kernel_rfl) (by kernel_rfl)
      (by rw [MakeChecks.laidMetH_plain _ _ _ (by kernel_rfl)]; exact laidMet_laidAll _ (by kernel_rfl) (by kernel_rfl))) ?_
  intro W base args ds gs before hshape hval0 hW hcnd _ hL _
  have hval : ∀ (j : Nat) t v, Tryd.f4.params[j]? = some t → args[j]? = some v → Value.okWide Tryd.prog W .any base t v := hval0
  have hW' := hW
  obtain ⟨p, q, hA0, hV, rfl, hfz, hnd⟩ := hW
  have hA : DataW.TrodAll enc Tryd.prog W 0 (fun _ => true) true Tryd.f4.params.toList args.toList ds p := hA0
  rw [Tryd.params4] at hA hval
  obtain ⟨v0, vs0, d0, ds0, p0, q0, hargs, rfl, rfl, h0, r0⟩ := trodAll_cons hA
  obtain ⟨rfl, rfl, rfl⟩ := trodAll_nil r0
  obtain rfl : args = #[v0] := by cases args; simp_all
  obtain ⟨rfl, rfl⟩ := trodVars_none hV
  obtain ⟨a0, len0, cap0, rfl⟩ := okWide_slice Tryd.underlying22 (hval 0 22 v0 rfl rfl)
  have k0 := h0
  have lt0 : ∀ x ∈ p0, x.block < W.heap.size := by obtain ⟨m, hm⟩ := k0; exact DataW.trod_lt m _ _ _ hm
  obtain ⟨z0, w0⟩ : ∃ zs, IsRowK .u8 W a0 len0 cap0 zs := by
    obtain ⟨fuel, hf⟩ := h0
    rcases open_ints Tryd.underlying22 Tryd.underlying5 (by kernel_rfl) hf with ⟨hcs, _⟩ | ⟨x, l, c, zs, hcs, _, hl, hm, hz, _, hcell, hwz⟩
    · simp [Value.cells] at hcs
      obtain ⟨rfl, rfl, rfl⟩ := hcs
      exact ⟨[], .inl ⟨rfl, rfl, rfl, rfl⟩⟩
    · simp [Value.cells] at hcs
      obtain ⟨rfl, rfl, rfl⟩ := hcs
      exact ⟨zs, .inr ⟨_, rfl, hl, hm, by simpa using hz, hcell, hwz⟩⟩
  clear hA0 hval0
  refine (walk_FnTrackNext a0 len0 cap0 z0 W w0).mono fun e W' ⟨he, bel⟩ => ?_
  subst he
  exact ⟨_, rfl, _, _, _, [], _, [], hW', trodAll_mk1 (shut_bool Tryd.underlying4 _), (trodAll_cons_mk (Below.trod laidOut (by kernel_rfl) (of_decide_eq_true (by kernel_rfl)) k0 bel lt0) trodAll_mk0), rfl, bel.frame _, fun h => by cases h⟩

theorem closed : joinedFacts Tryd.checked.prog 4 Tryd.f4 Rows.fnTrackNextSpec Rows.fnTrackNextRow = true := by
  unfold joinedFacts
  simp only [Bool.and_eq_true]
  repeat' (refine And.intro ?_ ?_)
  all_goals first
    | with_reducible exact may_enter
    | (rw [lifts_final]; kernel_rfl)
    | (rw [make_is]; kernel_rfl)
    | kernel_rfl

theorem over : Rows.fnTrackNextRow.holds Tryd.pinned (OpenSpec.ofChange Rows.fnTrackNextSpec) :=
  OpenClaim.holds_of_wide 4 Tryd.f4 rfl rfl rfl rfl rfl rfl rfl ⟨rfl, rfl, rfl, rfl, rfl⟩ rfl rfl rfl rfl rfl (by kernel_rfl) Tryd.func4 closed
    (of_decide_eq_true (by kernel_rfl)) (by unfold Func.isWrapper; first | (rw [if_pos (by decide +kernel)]; kernel_rfl) | (rw [if_neg (by decide +kernel)]; exact ⟨rfl, rfl⟩))
    (fun os started H enc _ => lifted os started H enc)

set_option maxRecDepth 100000 in
theorem proved : Rows.FnTrackNextCardSaid :=
  Claim7.holds_tied_plain_at .later [] [.data, .pinned] true (true, "7b49ea8b61829ad8915aee6b8e88d4118ff3012fc1289881f4e74d4151b6efc2") false over (fun _ h => by cases h) (by kernel_rfl) (fun _ h => by cases h) fnTrackNext_row_tie rfl ⟨rfl, rfl⟩ (by kernel_rfl) rfl
    (fun f fn hf hfn => by
      obtain rfl : f = 4 := Option.some.inj ((show Tryd.prog.funcNamed "loop.example/blockboxes/laws.FnTrackNext" = some 4 by kernel_rfl).symm.trans hf) |>.symm
      obtain rfl : fn = Tryd.f4 := (Option.some.inj (Tryd.func4.symm.trans hfn)).symm
      exact ⟨by kernel_rfl, fun j t ht => by
        rw [Tryd.params4] at ht
        have hm : t ∈ [22] := by simpa using Array.mem_of_getElem? ht
        have hall : ([22].all fun u => !Tryd.prog.wantsStandIn u) = true := by kernel_rfl
        exact (show Tryd.prog.wantsStandIn t = false by simpa using List.all_eq_true.1 hall t hm)⟩)
    (by kernel_rfl)
#print axioms proved
end Go.Proofs.YtmdkfhbkdeoahaaDoor.fnTrackNext
