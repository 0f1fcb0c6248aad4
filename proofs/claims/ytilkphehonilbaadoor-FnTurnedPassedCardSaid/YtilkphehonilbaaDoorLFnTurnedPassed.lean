/-
  For every input the law 'FnTurnedPassed' returns true, and each of its arguments reads behind the call as it read before. Conditions: none beyond those of the row.
-/
import Derived.Test.YtilkphehonilbaaDoorRows
import Derived.WalkKit
import Derived.ProofKit
import Derived.OpenShut
import Derived.ShutString
import Derived.ChangeOld
import Derived.Below
import Derived.Deep.Matrix
import Derived.Test.YtilkphehonilbaaDoorIo
import Derived.LaidMore
import Derived.Lay
import Derived.SevenTiedAt
import Derived.Stop.Joined
import Derived.Test.YtilkphehonilbaaDoorCards
import Derived.Test.YtilkphehonilbaaDoorTie
import Derived.Test.YtilkphehonilbaaDoorShp
import Derived.Test.YtilkphehonilbaaDoorDrwW
import Derived.Test.YtilkphehonilbaaDoorWlkP
import Derived.Test.YtilkphehonilbaaDoorStrQ
import Derived.Test.YtilkphehonilbaaDoorTrkU
import Derived.Test.YtilkphehonilbaaDoorTabL
namespace Go.Proofs.YtilkphehonilbaaDoor
open Go.RowKit

set_option maxRecDepth 100000 in
set_option maxHeartbeats 8000000 in
theorem walk_FnTurnedPassed (a0 : Option Addr) (len0 cap0 : Nat) (z0 : List Int) (w : World) (w0 : IsRowK .u8 w a0 len0 cap0 z0) (hT : TabW w) :
    Calls Tryd.prog 7 #[.slice a0 len0 cap0] w fun e w' => e = .returned (.bool true) ∧ Below w.heap.size w w' := by
  rcases Nat.lt_or_ge 1048576 len0 with hbig | hsm
  · have hb : (1048576 : Int) < (len0 : Int) := by omega
    go_enter Tryd.func7, Tryd.ntmps7
    go_wp2_with fail
    go_ret
    exact ⟨rfl, Below.refl _ _⟩
  have hb : (len0 : Int) ≤ 1048576 := by omega
  obtain ⟨i0, hi, hz0, hz1, hz2⟩ := info_parts info_str
  have DN := Lib.hid (drawTrackPassed w0 hsm)
  have HT := Lib.hid hT
  clear w0 hT
  go_enter Tryd.func7, Tryd.ntmps7
  go_wp2_with (go_at_call 25; refine DN.out.mono ?_)
  rintro e wA ⟨v, xs, rfl, oA, hl, hx, bA⟩
  have HX := Lib.hid hx
  have TA := Lib.hid (fun (X : World) (q : Below wA.heap.size wA X) => (HT.out.below HT.out.lt (chain bA q) : TabW X))
  have WI := Lib.hid (fun (X : World) (u : Value) (ys : List ByteArray) (b : Nat) (q : Below wA.heap.size wA X) (o : OwnS X b u ys) (h1 : ys.length ≤ 10) (h2 : Sh ys) => implPassed o (by omega) (fun i hi => Nat.le_trans (h2 i hi) (by decide)) (TA.out X q))
  have I1 := WI.out wA v xs _ (below_self wA) oA hl hx
  have WF := Lib.hid (fun (h : walkB xs = true) => And.intro (psV_back h) (walk_sizes h))
  have PN : walkB xs = false → psV xs = -1 := fun h => by unfold psV; rw [h]; rfl
  have PP : walkB xs = true → 0 ≤ psV xs ∧ psV xs ≤ 10 := fun h => by
    have := psTo_range xs (xs.length - 1)
    unfold psV; rw [h, if_pos rfl]; omega
  obtain ⟨a, cap, rfl, hcap, hc⟩ := oA.cells
  have HC := Lib.hid hc
  have S2 := Lib.hid (fun (X : World) (q : Below wA.heap.size wA X) => specPassed (oA.below q) (by omega) (fun i hi => Nat.le_trans (hx i hi) (by decide)))
  have OA := Lib.hid oA
  have BA := Lib.hid bA
  obtain ⟨t, ht⟩ : ∃ t, t = walkB xs := ⟨_, rfl⟩
  obtain ⟨d, hd⟩ : ∃ d, d = psV xs := ⟨_, rfl⟩
  rw [← ht] at WF PN PP
  rw [← hd] at I1 PN PP
  have S2 := S2.out
  simp only [← hd] at S2
  have S2 := Lib.hid S2
  have I1 := Lib.hid I1
  have hli : (xs.length : Int) ≤ 10 := by omega
  clear ht hd hc oA bA hx DN
  go_wp2_with (go_at_call 19; refine I1.out.mono ?_)
  rintro e wB ⟨rfl, b2⟩
  have B2 := Lib.hid b2
  clear b2
  go_wp2_with (go_at_call 26; refine (S2.out _ B2.out).mono ?_)
  rintro e wC ⟨rfl, b3⟩
  have B3 := Lib.hid (chain B2.out b3)
  clear b3 S2 I1
  cases t with
  | false =>
    have e := PN rfl
    subst e
    clear PN PP WF
    go_wp2_with fail
    go_ret
    exact ⟨rfl, chain BA.out B3.out⟩
  | true =>
    obtain ⟨d0, d1⟩ := PP rfl
    have td : (d == d) = true := beq_self_eq_true d
    have tn : (d != d) = false := bne_self_eq_false d
    obtain ⟨F1, hpos, F2⟩ := WF.out rfl
    have F1 := Lib.hid F1
    have F2 := Lib.hid F2
    clear PN PP
    obtain ⟨g, rfl, hg0, hg, hcell⟩ : ∃ g, a = some ⟨g, 0, none⟩ ∧ w.heap.size ≤ g ∧ g < wA.heap.size ∧ ∀ i, i < xs.length → wA.cell? ⟨g, i, none⟩ = some (.string (xs.getD i ⟨#[]⟩)) := by
      rcases HC.out with h | h
      · rw [h] at hpos; simp at hpos
      · exact h
    have HC := Lib.hid hcell
    have E4 := Lib.hid (ownS_empty wC)
    have B4 := Lib.hid (below_alloc wC (.cells #[] 9))
    clear hcell WF
    go_wp2_with fail
    go_loopw [6, 7, 8, 9] (fun b i _ _ wr => ∃ j : Nat, j ≤ xs.length ∧ i = .int .i64 ((j : Int) - 1) ∧ Hid (OwnS wr wC.heap.size b (bkL xs (xs.length - j))) ∧ Hid (Below wC.heap.size wC wr)) (fun _ i _ _ _ => (intOf i + 1).toNat)
    case atStart => exact ⟨xs.length, Nat.le_refl _, by go_num, by rw [Nat.sub_self]; exact E4, B4⟩
    case round =>
      obtain ⟨j, hj, rfl, OO, BB⟩ := hrel
      have hsz := BB.out.size
      cases j with
      | zero =>
        have e0 : (((0 : Nat) : Int) - 1) = -1 := rfl
        rw [e0]
        have OB := OO.out
        rw [Nat.sub_zero] at OB
        have hBC := chain B3.out BB.out
        have I2 := Lib.hid (fun (X : World) (q : Below wr.heap.size wr X) => WI.out X _ _ _ (chain hBC q) (OB.below q) (by rw [bkL_length]; exact hl) (fun i hi => by
          rw [bkL_length] at hi
          rw [bkL_get hi, (tu_facts (F2.out _ (by omega)).1).2.2.2]
          exact HX.out _ (by omega)))
        have I2 := I2.out
        simp only [F1.out] at I2
        have I2 := Lib.hid I2
        have BC := Lib.hid hBC
        have W0 := Lib.hid (below_self wr)
        clear e0 OB hBC
        go_wp2_with fail
        go_loopw [10, 11] (fun n i wq => ∃ k : Nat, k < xs.length ∧ ∃ kx : Nat, Hid (kx = k + 1) ∧ i = .int .i64 kx ∧ n = .int .i64 (enTo xs k) ∧ wq = wr) (fun _ i _ => xs.length + 1 - (intOf i).toNat)
        case atStart => exact ⟨0, hpos, 1, Lib.hid rfl, rfl, rfl, rfl⟩
        case round =>
          obtain ⟨k, hk, kx, HK, rfl, rfl, rfl⟩ := hrel
          have hen := enTo_range xs k
          by_cases hlt : kx < xs.length
          · have hki : (kx : Int) < (xs.length : Int) := by omega
            have hki0 : (k : Int) < (xs.length : Int) := by omega
            obtain ⟨S, hS⟩ : ∃ S, S = xs.getD k ⟨#[]⟩ := ⟨_, rfl⟩
            obtain ⟨U, hU⟩ : ∃ S, S = xs.getD kx ⟨#[]⟩ := ⟨_, rfl⟩
            have c1 := (BC.out.cell (p := ⟨g, k, none⟩) hg).trans (HC.out k hk)
            have c2 := (BC.out.cell (p := ⟨g, kx, none⟩) hg).trans (HC.out kx hlt)
            have s1 := (F2.out k hk).1
            have u1 := (F2.out kx hlt).1
            rw [← hS] at c1 s1
            rw [← hU] at c2 u1
            have hsS := (trB_of s1).1.1
            have hsU := (trB_of u1).1.1
            have iS : ∀ W : World, (Instr.index 9 (.string S) (.int .i64 0)).run Tryd.prog W = .ok (.int .u8 (bt S 0)) W := index_is (k := 0) (by omega : 0 < S.size)
            have iU : ∀ W : World, (Instr.index 9 (.string U) (.int .i64 0)).run Tryd.prog W = .ok (.int .u8 (bt U 0)) W := index_is (k := 0) (by omega : 0 < U.size)
            have bS := oc_at (i := 0) s1 (by omega)
            have bU := oc_at (i := 0) u1 (by omega)
            have NX := Lib.hid (show enTo xs (k + 1) = enTo xs k + (if (!(oc S).testBit 0 && (oc U).testBit 0) = true then 1 else 0) by
              have e : enB xs k = (!(oc S).testBit 0 && (oc U).testBit 0) := by
                unfold enB
                rw [← HK.out, ← hS, ← hU]
              rw [← e]
              rfl)
            have d1' : wr.cell? ⟨g, 0 + k, none⟩ = some (.string S) := by rw [Nat.zero_add]; exact c1
            have d2' : wr.cell? ⟨g, 0 + kx, none⟩ = some (.string U) := by rw [Nat.zero_add]; exact c2
            obtain ⟨n, hn⟩ : ∃ n, n = enTo xs k := ⟨_, rfl⟩
            rw [← hn] at NX hen
            rw [← hn]
            obtain ⟨x, hx⟩ : ∃ x, x = bt S 0 := ⟨_, rfl⟩
            obtain ⟨y, hy⟩ : ∃ y, y = bt U 0 := ⟨_, rfl⟩
            rw [← hx] at iS bS
            rw [← hy] at iU bU
            obtain ⟨p, hp⟩ : ∃ p, p = (oc S).testBit 0 := ⟨_, rfl⟩
            obtain ⟨q, hq⟩ : ∃ q, q = (oc U).testBit 0 := ⟨_, rfl⟩
            rw [← hp] at bS NX
            rw [← hq] at bU NX
            have e1 : (x == 48) = !p := by rw [bS]; cases p <;> rfl
            have e2 : (y == 49) = q := by rw [bU]; cases q <;> rfl
            have hwn : IntKind.i64.wrap (n + 1) = n + 1 := IntWalk.i64_in _ (by omega)
            have hw1 : IntKind.i64.wrap ((kx : Int) - 1) = (k : Int) := by rw [IntWalk.i64_in _ (by omega)]; have := HK.out; omega
            have hkk : k + 1 < xs.length := by have := HK.out; omega
            have HKK := Lib.hid hkk
            clear hS hU s1 u1 hsS hsU bS bU hn hx hy hp hq hkk hlt
            cases p with
            | true =>
              go_wp2_with fail
              go_roundw
              case rel => exact ⟨k + 1, HKK.out, kx + 1, Lib.hid (by have := HK.out; omega), by go_num, by rw [NX.out]; simp, by first | rfl | trivial⟩
              case measure => simp [intOf]; omega
            | false =>
              cases q with
              | false =>
                go_wp2_with fail
                go_roundw
                case rel => exact ⟨k + 1, HKK.out, kx + 1, Lib.hid (by have := HK.out; omega), by go_num, by rw [NX.out]; simp, by first | rfl | trivial⟩
                case measure => simp [intOf]; omega
              | true =>
                go_wp2_with fail
                go_roundw
                case rel => exact ⟨k + 1, HKK.out, kx + 1, Lib.hid (by have := HK.out; omega), by go_num, by rw [NX.out]; simp, by first | rfl | trivial⟩
                case measure => simp [intOf]; omega
          · have hge : (xs.length : Int) ≤ (kx : Int) := by omega
            have hkl : xs.length - 1 = k := by have := HK.out; omega
            rw [hkl] at I2
            have I3 := Lib.hid (I2.out _ W0.out)
            have t1 : decide (0 ≤ d) = true := decide_eq_true d0
            obtain ⟨n, hn⟩ : ∃ n, n = enTo xs k := ⟨_, rfl⟩
            rw [← hn] at I3
            rw [← hn]
            have t2 : (n == n) = true := beq_self_eq_true n
            clear hn hlt hkl
            go_wp2_with (go_at_call 19; refine I3.out.mono ?_)
            rintro e w6 ⟨rfl, b6⟩
            go_wp2_with fail
            go_ret
            exact ⟨rfl, chain BA.out (chain BC.out b6)⟩
      | succ j =>
        have ej : ((j + 1 : Nat) : Int) - 1 = (j : Int) := by omega
        rw [ej]
        have hjl : j < xs.length := by omega
        have hji : (j : Int) < (xs.length : Int) := by omega
        have hB := chain B3.out BB.out
        have c0 := (hB.cell (p := ⟨g, j, none⟩) hg).trans (HC.out j hjl)
        obtain ⟨T, hT⟩ : ∃ T, T = xs.getD j ⟨#[]⟩ := ⟨_, rfl⟩
        rw [← hT] at c0
        have c1 : wr.cell? ⟨g, 0 + j, none⟩ = some (.string T) := by rw [Nat.zero_add]; exact c0
        have hTz : T.size ≤ 100 := by rw [hT]; exact HX.out j hjl
        have hTv : trB T = true := by rw [hT]; exact (F2.out j hjl).1
        have TT := implTrackTurn T (by omega) wr
        rw [hTv] at TT
        have LS := bkL_succ xs (xs.length - (j + 1))
        rw [show xs.length - 1 - (xs.length - (j + 1)) = j by omega, show xs.length - (j + 1) + 1 = xs.length - j by omega, ← hT] at LS
        obtain ⟨U, hU⟩ : ∃ U, U = tuS T := ⟨_, rfl⟩
        rw [← hU] at TT LS
        have TT := Lib.hid TT
        have LS := Lib.hid LS
        clear hT hTz hTv hU ej hB
        go_wp2_with (go_at_call 12; refine TT.out.mono ?_)
        rintro e w5 ⟨rfl, b5⟩
        have B5 := Lib.hid (chain BB.out b5)
        have hor := OwnS.below OO.out b5
        have hs5 := b5.size
        unfold OwnS at hor
        rw [bkL_length] at hor
        clear b5 c0 c1
        go_wp2_with (at_builtin; refine wpList_append_own _ rfl _ _ 23 rfl wC.heap.size 9 i0 (.string ⟨#[]⟩) 1 16 Tryd.underlying23 hi hz0 hz1 hz2 rfl (by decide) _ _ _ rfl (hor.alloc _) ⟨w5.heap.size, 0, none⟩ 1 1 [.string U] rfl rfl ?c1 ?c2 ?c3 ?c4 ?c5 ?_)
        case c1 => exact str_new _ _
        case c2 => intro u hu; simp at hu; subst hu; rfl
        case c3 => simp only [maxLen]; omega
        case c4 => omega
        case c5 => simp; omega
        intro v' w8 hown' hgrow _
        have own_out := fun c hc => (World.ownsRow.lt hor c hc).1
        have HB := Lib.hid ((B5.out.alloc (by have := B5.out.size; omega) _).grown hgrow (by simp; omega) (fun c hc => own_out c hc))
        have HO := Lib.hid (show OwnS w8 wC.heap.size v' (bkL xs (xs.length - j)) by
          unfold OwnS
          rw [LS.out, List.length_append, List.map_append, bkL_length]
          exact hown')
        clear hown' hgrow hor own_out
        go_wp2_with fail
        go_roundw
        case rel => exact ⟨j, by omega, by go_num, HO.out, HB.out⟩
        case measure => simp [intOf]

end Go.Proofs.YtilkphehonilbaaDoor

namespace Go.Proofs.YtilkphehonilbaaDoor.fnTurnedPassed
open Go.ChangeShapes Go.WideShapes Go.ChangeAt Go.RowKit
open Go.ChangeMaps (open_string shut_string)
set_option linter.unusedVariables false

theorem own : ownKnob Tryd.prog.godebug = none := by kernel_rfl
theorem laidOut : laidOutB Tryd.prog = true := by kernel_rfl

abbrev lst : List (String × DataW Unit) := Rows.fnTurnedPassedRow.laid

set_option maxRecDepth 100000 in
theorem lifted (os : Os) (started : os.Started) (H : Type) (enc : TypeId × Value → H) :
    ReturnsInHanded {} Tryd.checked os 7 .any (fun w args => (Rows.fnTurnedPassedSpec.pre enc Tryd.prog Tryd.f7 Rows.fnTurnedPassedRow.domain false w args ∧ laidMetH Tryd.prog lst w) ∧ sizedMet enc Tryd.prog Tryd.f7 (OpenSpec.ofChange Rows.fnTurnedPassedSpec) false w args) (Rows.fnTurnedPassedSpec.post enc Tryd.prog Tryd.f7 false true false false) := by
  refine returns_shaped (C := Tryd.checked) (X := fun w _ => laidMetH Tryd.prog lst w) (fun _ _ _ hh h => h.of_heap hh) own started (by kernel_rfl) Tryd.func7
    (ChangeSpec.witness_shaped (enc := enc) (C := Tryd.checked) (os := os) (X := fun w _ => laidMetH Tryd.prog lst w) false (World.laidAll Tryd.prog os lst) #[.slice none 0 0] 8 (World.laidAll_os _ _ _)
      (World.shaped_of_ZipB (by kernel_rfl) (by kernel_rfl)) (by kernel_rfl) (by kernel_rfl) (by kernel_rfl)
      (by rw [MakeChecks.laidMetH_plain _ _ _ (by kernel_rfl)]; exact laidMet_laidAll _ (by kernel_rfl) (by kernel_rfl))) ?_
  intro W base args ds gs before hshape hval0 hW hcnd _ hL _
  have hval : ∀ (j : Nat) t v, Tryd.f7.params[j]? = some t → args[j]? = some v → Value.okWide Tryd.prog W .any base t v := hval0
  have hW' := hW
  obtain ⟨p, q, hA0, hV, rfl, hfz, hnd⟩ := hW
  have hA : DataW.TrodAll enc Tryd.prog W 0 (fun _ => true) true Tryd.f7.params.toList args.toList ds p := hA0
  rw [Tryd.params7] at hA hval
  obtain ⟨v0, vs0, d0, ds0, p0, q0, hargs, rfl, rfl, h0, r0⟩ := trodAll_cons hA
  obtain ⟨rfl, rfl, rfl⟩ := trodAll_nil r0
  obtain rfl : args = #[v0] := by cases args; simp_all
  obtain ⟨rfl, rfl⟩ := trodVars_none hV
  obtain ⟨a0, len0, cap0, rfl⟩ := okWide_slice Tryd.underlying22 (hval 0 22 v0 rfl rfl)
  have k0 := h0
  have lt0 : ∀ x ∈ p0, x.block < W.heap.size := by obtain ⟨m, hm⟩ := k0; exact DataW.trod_lt m _ _ _ hm
  obtain ⟨z0, w0⟩ : ∃ zs, IsRowK .u8 W a0 len0 cap0 zs := by
    obtain ⟨fuel, hf⟩ := h0
    rcases open_ints Tryd.underlying22 Tryd.underlying5 (by kernel_rfl) hf with ⟨hcs, _⟩ | ⟨x, l, c, zs, hcs, _, hl, hm, hz, _, hcell, hwz⟩
    · simp [Value.cells] at hcs
      obtain ⟨rfl, rfl, rfl⟩ := hcs
      exact ⟨[], .inl ⟨rfl, rfl, rfl, rfl⟩⟩
    · simp [Value.cells] at hcs
      obtain ⟨rfl, rfl, rfl⟩ := hcs
      exact ⟨zs, .inr ⟨_, rfl, hl, hm, by simpa using hz, hcell, hwz⟩⟩
  clear hA0 hval0
  refine (walk_FnTurnedPassed a0 len0 cap0 z0 W w0 (tab_of (by kernel_rfl) hL)).mono fun e W' ⟨he, bel⟩ => ?_
  subst he
  exact ⟨_, rfl, _, _, _, [], _, [], hW', trodAll_mk1 (shut_bool Tryd.underlying4 _), (trodAll_cons_mk (Below.trod laidOut (by kernel_rfl) (of_decide_eq_true (by kernel_rfl)) k0 bel lt0) trodAll_mk0), rfl, bel.frame _, fun h => by cases h⟩

theorem closed : joinedFacts Tryd.checked.prog 7 Tryd.f7 Rows.fnTurnedPassedSpec Rows.fnTurnedPassedRow = true := by
  unfold joinedFacts
  simp only [Bool.and_eq_true]
  repeat' (refine And.intro ?_ ?_)
  all_goals first
    | with_reducible exact may_enter
    | (rw [lifts_final]; kernel_rfl)
    | (rw [make_is]; kernel_rfl)
    | kernel_rfl

theorem over : Rows.fnTurnedPassedRow.holds Tryd.pinned (OpenSpec.ofChange Rows.fnTurnedPassedSpec) :=
  OpenClaim.holds_of_wide 7 Tryd.f7 rfl rfl rfl rfl rfl rfl rfl ⟨rfl, rfl, rfl, rfl, rfl⟩ rfl rfl rfl rfl rfl (by kernel_rfl) Tryd.func7 closed
    (of_decide_eq_true (by kernel_rfl)) (by unfold Func.isWrapper; first | (rw [if_pos (by decide +kernel)]; kernel_rfl) | (rw [if_neg (by decide +kernel)]; exact ⟨rfl, rfl⟩))
    (fun os started H enc _ => lifted os started H enc)

set_option maxRecDepth 100000 in
theorem proved : Rows.FnTurnedPassedCardSaid :=
  Claim7.holds_tied_plain_at .later [] [.data, .data, .data, .pinned] true (true, "43951fc71a92b78b6c121e53df8cc3e42112b87fdd45d31bb3ae16b9168cf7bf") false over (fun _ h => by cases h) (by kernel_rfl) (fun _ h => by cases h) fnTurnedPassed_row_tie rfl ⟨rfl, rfl⟩ (by kernel_rfl) rfl
    (fun f fn hf hfn => by
      obtain rfl : f = 7 := Option.some.inj ((show Tryd.prog.funcNamed "loop.example/blockboxes/laws.FnTurnedPassed" = some 7 by kernel_rfl).symm.trans hf) |>.symm
      obtain rfl : fn = Tryd.f7 := (Option.some.inj (Tryd.func7.symm.trans hfn)).symm
      exact ⟨by kernel_rfl, fun j t ht => by
        rw [Tryd.params7] at ht
        have hm : t ∈ [22] := by simpa using Array.mem_of_getElem? ht
        have hall : ([22].all fun u => !Tryd.prog.wantsStandIn u) = true := by kernel_rfl
        exact (show Tryd.prog.wantsStandIn t = false by simpa using List.all_eq_true.1 hall t hm)⟩)
    (by kernel_rfl)
#print axioms proved
end Go.Proofs.YtilkphehonilbaaDoor.fnTurnedPassed
