/-
  For every input the law 'FnTrackRun' returns true, and each of its arguments reads behind the call as it read before. Conditions: none beyond those of the row.
-/
import Derived.Test.YtilkphehonilbaaDoorRows
import Derived.WalkKit
import Derived.ProofKit
import Derived.OpenShut
import Derived.ShutString
import Derived.ChangeOld
import Derived.Below
import Derived.Deep.Matrix
import Derived.Test.YtilkphehonilbaaDoorIo
import Derived.LaidMore
import Derived.Lay
import Derived.SevenTiedAt
import Derived.Stop.Joined
import Derived.Test.YtilkphehonilbaaDoorCards
import Derived.Test.YtilkphehonilbaaDoorTie
import Derived.Test.YtilkphehonilbaaDoorShp
import Derived.Test.YtilkphehonilbaaDoorDrwR
import Derived.Test.YtilkphehonilbaaDoorWlkR
import Derived.Test.YtilkphehonilbaaDoorTrkU
import Derived.Test.YtilkphehonilbaaDoorTabL
namespace Go.Proofs.YtilkphehonilbaaDoor
open Go.RowKit

set_option maxRecDepth 100000 in
set_option maxHeartbeats 8000000 in
theorem walk_FnTrackRun (a0 : Option Addr) (len0 cap0 : Nat) (z0 : List Int) (w : World) (w0 : IsRowK .u8 w a0 len0 cap0 z0) (hT : TabW w) :
    Calls Tryd.prog 4 #[.slice a0 len0 cap0] w fun e w' => e = .returned (.bool true) ∧ Below w.heap.size w w' := by
  rcases Nat.lt_or_ge 1048576 len0 with hbig | hsm
  · have hb : (1048576 : Int) < (len0 : Int) := by omega
    go_enter Tryd.func4, Tryd.ntmps4
    go_wp2_with fail
    go_ret
    exact ⟨rfl, Below.refl _ _⟩
  have hb : (len0 : Int) ≤ 1048576 := by omega
  have DN := Lib.hid (drawTrackRun w0 hsm)
  have HT := Lib.hid hT
  clear w0 hT
  go_enter Tryd.func4, Tryd.ntmps4
  go_wp2_with (go_at_call 13; refine DN.out.mono ?_)
  rintro e wA ⟨n, l, rfl, hn0, hn9, hl0, hl10, bA⟩
  have IR := implTrackRun n l (by omega) (by omega) wA
  have SR := fun X => specTrackRun n l (by omega) (by omega) X
  have RF := @rn_facts n l
  have LL := rnV_length n l
  obtain ⟨xs, hxs⟩ : ∃ xs, xs = rnV n l := ⟨_, rfl⟩
  obtain ⟨t, ht⟩ : ∃ t, t = rnOk n l := ⟨_, rfl⟩
  rw [← hxs, ← ht] at IR
  simp only [← hxs, ← ht] at SR
  rw [← ht] at RF
  simp only [← hxs] at RF
  rw [← hxs] at LL
  have IR := Lib.hid IR
  have SR := Lib.hid SR
  have RF := Lib.hid RF
  have BA := Lib.hid bA
  clear hxs ht bA DN
  go_wp2_with (go_at_call 14; refine IR.out.mono ?_)
  rintro e wB ⟨vB, rfl, oB, bB⟩
  have OB := Lib.hid oB
  have BB := Lib.hid (chain BA.out bB)
  obtain ⟨a, cap, rfl, hcap, -⟩ := oB.cells
  clear bB oB
  go_wp2_with (go_at_call 15; refine (SR.out _).mono ?_)
  rintro e wC ⟨vC, rfl, oC, bC⟩
  have oB := OB.out.below bC
  have SM := Lib.hid (fun X (q : Below wC.heap.size wC X) => sameTexts (oB.below q) (oC.below q) (by omega))
  have BC := Lib.hid (chain BB.out bC)
  have OB := Lib.hid oB
  obtain ⟨aC, capC, rfl, -, -⟩ := oC.cells
  clear bC oC oB SR IR
  cases t with
  | false =>
    go_wp2_with (go_at_call 16; refine (SM.out _ (below_self _)).mono ?_)
    rintro e w4 ⟨rfl, b4⟩
    have B4 := Lib.hid b4
    clear b4
    go_wp2_with (go_at_call 16; refine (SM.out _ B4.out).mono ?_)
    rintro e w5 ⟨rfl, b5⟩
    go_wp2_with fail
    go_ret
    exact ⟨rfl, chain BC.out (chain B4.out b5)⟩
  | true =>
    obtain ⟨m, p, rfl, rfl, hm1, hm8, hpm, hlen, hwalk, hps, hAT⟩ := RF.out rfl
    have AT := Lib.hid hAT
    obtain ⟨a', cap', e', -, hc⟩ := OwnS.cells OB.out
    simp only [Value.slice.injEq, true_and] at e'
    obtain ⟨rfl, rfl⟩ := e'
    obtain ⟨g, rfl, hg0, hg, hcell⟩ : ∃ g, a = some ⟨g, 0, none⟩ ∧ wA.heap.size ≤ g ∧ g < wC.heap.size ∧ ∀ i, i < xs.length → wC.cell? ⟨g, i, none⟩ = some (.string (xs.getD i ⟨#[]⟩)) := by
      rcases hc with h | h
      · rw [h] at hlen; simp at hlen
      · exact h
    have HC := Lib.hid hcell
    have h8 : (m : Int) ≤ 8 := by omega
    have h1 : (1 : Int) ≤ (m : Int) := by omega
    have hp8 : (p : Int) ≤ 8 := by omega
    have hli : (xs.length : Int) ≤ 17 := by omega
    have hle : (xs.length : Int) = 2 * (m : Int) + 1 := by omega
    have HLE := Lib.hid hle
    have HLN := Lib.hid hlen
    have hSh : ∀ i, i < xs.length → (xs.getD i ⟨#[]⟩).size ≤ 1048576 := fun i hi => by
      have := (hAT i (by omega)).size
      omega
    have IW := Lib.hid (fun (X : World) (q : Below wC.heap.size wC X) => (show Calls Tryd.prog 10 _ X _ from implWalk (OB.out.below q) (by omega) hSh (HT.out.below HT.out.lt (chain BC.out q))))
    have IP := Lib.hid (fun (X : World) (q : Below wC.heap.size wC X) => (show Calls Tryd.prog 19 _ X _ from implPassed (OB.out.below q) (by omega) hSh (HT.out.below HT.out.lt (chain BC.out q))))
    have IW := IW.out
    have IP := IP.out
    simp only [hwalk] at IW
    simp only [hps] at IP
    have IW := Lib.hid IW
    have IP := Lib.hid IP
    have CN := Lib.hid (fun (S : ByteArray) (h : S.size ≤ 1048576) => countOf S h 49)
    have TB := Lib.hid (fun (S : ByteArray) (h : S.size ≤ 1048576) => implTrackBlocks S h)
    clear RF
    clear hAT hc hcell hlen hle hwalk hps hSh hn0 hn9 hl0 hl10
    go_wp2_with (go_at_call 16; refine (SM.out _ (below_self _)).mono ?_)
    rintro e w4 ⟨rfl, b4⟩
    have B4 := Lib.hid b4
    clear b4
    go_wp2_with fail
    go_loopw [9, 10] (fun i _ wr => ∃ k : Nat, k ≤ xs.length ∧ i = .int .i64 k ∧ Hid (Below wC.heap.size wC wr)) (fun i _ _ => xs.length - (intOf i).toNat)
    case atStart => exact ⟨0, Nat.zero_le _, rfl, B4⟩
    case round =>
      obtain ⟨k, hk, rfl, BR⟩ := hrel
      by_cases hlt : k < xs.length
      · have hki : (k : Int) < (xs.length : Int) := by omega
        obtain ⟨S, hS⟩ : ∃ S, S = xs.getD k ⟨#[]⟩ := ⟨_, rfl⟩
        have c0 := (BR.out.cell (p := ⟨g, k, none⟩) hg).trans (HC.out k hlt)
        obtain ⟨z, tv, b1, b0, c1, c2, c3⟩ := AT.out k (by have := HLN.out; omega)
        rw [← hS] at c0 z tv b1 b0 c1 c2 c3
        have CS := CN.out S (by omega)
        have BS := TB.out S (by omega)
        obtain ⟨c, hc⟩ : ∃ c, c = cntTo S 49 S.size := ⟨_, rfl⟩
        obtain ⟨b, hbb⟩ : ∃ c, c = blT S := ⟨_, rfl⟩
        rw [← hc] at CS c1 c2 c3
        simp only [← hbb] at BS b1 b0
        have CS := Lib.hid CS
        have BS := Lib.hid BS
        have d0 : wr.cell? ⟨g, 0 + k, none⟩ = some (.string S) := by rw [Nat.zero_add]; exact c0
        have C0 := Lib.hid c0
        have t1 : decide (1 < b) = false := decide_eq_false (by omega)
        have t2 : decide ((p : Int) + 1 < c) = false := decide_eq_false (by omega)
        have c3i : ((k : Int) = 0 ∨ 2 * (m : Int) ≤ (k : Int)) ↔ c = 0 := by
          rw [← c3]
          constructor
          · rintro (q | q)
            · exact .inl (by omega)
            · exact .inr (by omega)
          · rintro (q | q)
            · exact .inl (by omega)
            · exact .inr (by omega)
        clear hS hc hbb z tv b1 b0 c1 c2 c3 hlt
        go_wp2_with (go_at_call 17; refine (CS.out _).mono ?_)
        rintro e w5 ⟨rfl, rfl⟩
        have hw1 : IntKind.i64.wrap ((p : Int) + 1) = (p : Int) + 1 := IntWalk.i64_in _ (by omega)
        have hw2 : IntKind.i64.wrap (2 * (m : Int)) = 2 * (m : Int) := IntWalk.i64_in _ (by omega)
        by_cases hk0 : k = 0
        · subst hk0
          have t3 : decide ((0 : Int) < ((0 : Nat) : Int)) = false := rfl
          go_wp2_with (go_at_call 18; refine (BS.out _).mono ?_)
          rintro e w6 ⟨rfl, b6⟩
          have B6 := Lib.hid (chain BR.out b6)
          clear b6
          go_wp2_with fail
          go_roundw
          case rel => exact ⟨1, by omega, by go_num, B6.out⟩
          case measure => simp [intOf]; omega
        · have t3 : decide ((0 : Int) < (k : Int)) = true := decide_eq_true (by omega)
          by_cases hk2 : 2 * (m : Int) ≤ (k : Int)
          · have t4 : decide ((k : Int) < 2 * (m : Int)) = false := decide_eq_false (by omega)
            clear hk0 c3i hk2
            go_wp2_with (go_at_call 18; refine (BS.out _).mono ?_)
            rintro e w6 ⟨rfl, b6⟩
            have B6 := Lib.hid (chain BR.out b6)
            clear b6
            go_wp2_with fail
            all_goals
              go_roundw
              case rel => exact ⟨k + 1, by omega, by go_num, B6.out⟩
              case measure => simp [intOf]; omega
          · have t4 : decide ((k : Int) < 2 * (m : Int)) = true := decide_eq_true (by omega)
            have t5 : (c == 0) = false := beq_eq_false_iff_ne.2 (fun q => by have := c3i.2 q; omega)
            clear hk0 c3i hk2
            go_wp2_with (go_at_call 18; refine (BS.out _).mono ?_)
            rintro e w6 ⟨rfl, b6⟩
            have B6 := Lib.hid (chain BR.out b6)
            clear b6
            go_wp2_with fail
            all_goals
              go_roundw
              case rel => exact ⟨k + 1, by omega, by go_num, B6.out⟩
              case measure => simp [intOf]; omega
      · obtain rfl : k = xs.length := by omega
        have hle := HLE.out
        have hln := HLN.out
        obtain ⟨S, hS⟩ : ∃ S, S = xs.getD 0 ⟨#[]⟩ := ⟨_, rfl⟩
        obtain ⟨U, hU⟩ : ∃ S, S = xs.getD (2 * m) ⟨#[]⟩ := ⟨_, rfl⟩
        have c0 := HC.out 0 (by omega)
        have c1 := HC.out (2 * m) (by omega)
        have s1 := AT.out 0 (by omega)
        have u1 := AT.out (2 * m) (by omega)
        rw [← hS] at c0 s1
        rw [← hU] at c1 u1
        have CS := CN.out S (by have := s1.size; omega)
        have CU := CN.out U (by have := u1.size; omega)
        rw [s1.none.1 (.inl rfl)] at CS
        rw [u1.none.1 (.inr (Nat.le_refl _))] at CU
        have CS := Lib.hid CS
        have CU := Lib.hid CU
        have DS := Lib.hid (fun (X : World) (q : Below wC.heap.size wC X) => (show X.cell? ⟨g, 0, none⟩ = some (.string S) from (q.cell (p := ⟨g, 0, none⟩) hg).trans c0))
        have DU := Lib.hid (fun (X : World) (q : Below wC.heap.size wC X) => (show X.cell? ⟨g, 0 + 2 * m, none⟩ = some (.string U) from by rw [Nat.zero_add]; exact (q.cell (p := ⟨g, 2 * m, none⟩) hg).trans c1))
        have DV := Lib.hid (fun (X : World) (q : Below wC.heap.size wC X) => (show X.cell? ⟨g, 2 * m, none⟩ = some (.string U) from (q.cell (p := ⟨g, 2 * m, none⟩) hg).trans c1))
        have t1 : ((xs.length : Int) == 2 * (m : Int) + 1) = true := beq_iff_eq.2 hle
        have hw2 : IntKind.i64.wrap (2 * (m : Int)) = 2 * (m : Int) := IntWalk.i64_in _ (by omega)
        have hw3 : IntKind.i64.wrap (2 * (m : Int) + 1) = 2 * (m : Int) + 1 := IntWalk.i64_in _ (by omega)
        have hb0 : (0 : Int) < (xs.length : Int) := by omega
        have hb1 : 2 * (m : Int) < (xs.length : Int) := by omega
        have hb2 : 0 ≤ 2 * (m : Int) := by omega
        have hb3 : (2 * (m : Int)).toNat = 2 * m := by omega
        clear hS hU c0 c1 s1 u1 hle hln hlt
        go_wp2_with (go_at_call 10; refine (IW.out _ BR.out).mono ?_)
        rintro e w5 ⟨rfl, b5⟩
        have B5 := Lib.hid (chain BR.out b5)
        have y0 := DS.out _ B5.out
        have y1 := DU.out _ B5.out
        have y2 := DV.out _ B5.out
        clear b5
        go_wp2_with (first
          | (go_at_call_of 17 (Value.string S); refine (CS.out _).mono ?_; rintro e w6 ⟨rfl, rfl⟩)
          | (go_at_call_of 17 (Value.string U); refine (CU.out _).mono ?_; rintro e w7 ⟨rfl, rfl⟩)
          | (go_at_call 19; refine (IP.out _ B5.out).mono ?_; rintro e w8 ⟨rfl, b8⟩))
        go_ret
        exact ⟨rfl, chain BC.out (chain B5.out b8)⟩

end Go.Proofs.YtilkphehonilbaaDoor

namespace Go.Proofs.YtilkphehonilbaaDoor.fnTrackRun
open Go.ChangeShapes Go.WideShapes Go.ChangeAt Go.RowKit
open Go.ChangeMaps (open_string shut_string)
set_option linter.unusedVariables false

theorem own : ownKnob Tryd.prog.godebug = none := by kernel_rfl
theorem laidOut : laidOutB Tryd.prog = true := by kernel_rfl

abbrev lst : List (String × DataW Unit) := Rows.fnTrackRunRow.laid

set_option maxRecDepth 100000 in
theorem lifted (os : Os) (started : os.Started) (H : Type) (enc : TypeId × Value → H) :
    ReturnsInHanded {} Tryd.checked os 4 .any (fun w args => (Rows.fnTrackRunSpec.pre enc Tryd.prog Tryd.f4 Rows.fnTrackRunRow.domain false w args ∧ laidMetH Tryd.prog lst w) ∧ sizedMet enc Tryd.prog Tryd.f4 (OpenSpec.ofChange Rows.fnTrackRunSpec) false w args) (Rows.fnTrackRunSpec.post enc Tryd.prog Tryd.f4 false true false false) := by
  refine returns_shaped (C := Tryd.checked) (X := fun w _ => laidMetH Tryd.prog lst w) (fun _ _ _ hh h => h.of_heap hh) own started (by kernel_rfl) Tryd.func4
    (ChangeSpec.witness_shaped (enc := enc) (C := Tryd.checked) (os := os) (X := fun w _ => laidMetH Tryd.prog lst w) false (World.laidAll Tryd.prog os lst) #[.slice none 0 0] 8 (World.laidAll_os _ _ _)
      (World.shaped_of_ZipB (by kernel_rfl) (by kernel_rfl)) (by kernel_rfl) (by kernel_rfl) (by kernel_rfl)
      (by rw [MakeChecks.laidMetH_plain _ _ _ (by kernel_rfl)]; exact laidMet_laidAll _ (by kernel_rfl) (by kernel_rfl))) ?_
  intro W base args ds gs before hshape hval0 hW hcnd _ hL _
  have hval : ∀ (j : Nat) t v, Tryd.f4.params[j]? = some t → args[j]? = some v → Value.okWide Tryd.prog W .any base t v := hval0
  have hW' := hW
  obtain ⟨p, q, hA0, hV, rfl, hfz, hnd⟩ := hW
  have hA : DataW.TrodAll enc Tryd.prog W 0 (fun _ => true) true Tryd.f4.params.toList args.toList ds p := hA0
  rw [Tryd.params4] at hA hval
  obtain ⟨v0, vs0, d0, ds0, p0, q0, hargs, rfl, rfl, h0, r0⟩ := trodAll_cons hA
  obtain ⟨rfl, rfl, rfl⟩ := trodAll_nil r0
  obtain rfl : args = #[v0] := by cases args; simp_all
  obtain ⟨rfl, rfl⟩ := trodVars_none hV
  obtain ⟨a0, len0, cap0, rfl⟩ := okWide_slice Tryd.underlying22 (hval 0 22 v0 rfl rfl)
  have k0 := h0
  have lt0 : ∀ x ∈ p0, x.block < W.heap.size := by obtain ⟨m, hm⟩ := k0; exact DataW.trod_lt m _ _ _ hm
  obtain ⟨z0, w0⟩ : ∃ zs, IsRowK .u8 W a0 len0 cap0 zs := by
    obtain ⟨fuel, hf⟩ := h0
    rcases open_ints Tryd.underlying22 Tryd.underlying5 (by kernel_rfl) hf with ⟨hcs, _⟩ | ⟨x, l, c, zs, hcs, _, hl, hm, hz, _, hcell, hwz⟩
    · simp [Value.cells] at hcs
      obtain ⟨rfl, rfl, rfl⟩ := hcs
      exact ⟨[], .inl ⟨rfl, rfl, rfl, rfl⟩⟩
    · simp [Value.cells] at hcs
      obtain ⟨rfl, rfl, rfl⟩ := hcs
      exact ⟨zs, .inr ⟨_, rfl, hl, hm, by simpa using hz, hcell, hwz⟩⟩
  clear hA0 hval0
  refine (walk_FnTrackRun a0 len0 cap0 z0 W w0 (tab_of (by kernel_rfl) hL)).mono fun e W' ⟨he, bel⟩ => ?_
  subst he
  exact ⟨_, rfl, _, _, _, [], _, [], hW', trodAll_mk1 (shut_bool Tryd.underlying4 _), (trodAll_cons_mk (Below.trod laidOut (by kernel_rfl) (of_decide_eq_true (by kernel_rfl)) k0 bel lt0) trodAll_mk0), rfl, bel.frame _, fun h => by cases h⟩

theorem closed : joinedFacts Tryd.checked.prog 4 Tryd.f4 Rows.fnTrackRunSpec Rows.fnTrackRunRow = true := by
  unfold joinedFacts
  simp only [Bool.and_eq_true]
  repeat' (refine And.intro ?_ ?_)
  all_goals first
    | with_reducible exact may_enter
    | (rw [lifts_final]; kernel_rfl)
    | (rw [make_is]; kernel_rfl)
    | kernel_rfl

theorem over : Rows.fnTrackRunRow.holds Tryd.pinned (OpenSpec.ofChange Rows.fnTrackRunSpec) :=
  OpenClaim.holds_of_wide 4 Tryd.f4 rfl rfl rfl rfl rfl rfl rfl ⟨rfl, rfl, rfl, rfl, rfl⟩ rfl rfl rfl rfl rfl (by kernel_rfl) Tryd.func4 closed
    (of_decide_eq_true (by kernel_rfl)) (by unfold Func.isWrapper; first | (rw [if_pos (by decide +kernel)]; kernel_rfl) | (rw [if_neg (by decide +kernel)]; exact ⟨rfl, rfl⟩))
    (fun os started H enc _ => lifted os started H enc)

set_option maxRecDepth 100000 in
theorem proved : Rows.FnTrackRunCardSaid :=
  Claim7.holds_tied_plain_at .later [] [.data, .data, .data, .pinned] true (true, "43951fc71a92b78b6c121e53df8cc3e42112b87fdd45d31bb3ae16b9168cf7bf") false over (fun _ h => by cases h) (by kernel_rfl) (fun _ h => by cases h) fnTrackRun_row_tie rfl ⟨rfl, rfl⟩ (by kernel_rfl) rfl
    (fun f fn hf hfn => by
      obtain rfl : f = 4 := Option.some.inj ((show Tryd.prog.funcNamed "loop.example/blockboxes/laws.FnTrackRun" = some 4 by kernel_rfl).symm.trans hf) |>.symm
      obtain rfl : fn = Tryd.f4 := (Option.some.inj (Tryd.func4.symm.trans hfn)).symm
      exact ⟨by kernel_rfl, fun j t ht => by
        rw [Tryd.params4] at ht
        have hm : t ∈ [22] := by simpa using Array.mem_of_getElem? ht
        have hall : ([22].all fun u => !Tryd.prog.wantsStandIn u) = true := by kernel_rfl
        exact (show Tryd.prog.wantsStandIn t = false by simpa using List.all_eq_true.1 hall t hm)⟩)
    (by kernel_rfl)
#print axioms proved
end Go.Proofs.YtilkphehonilbaaDoor.fnTrackRun
