/-
  For every input the law 'FnLine' returns true, and each of its arguments reads behind the call as it read before. Conditions: none beyond those of the row.
-/
import Derived.Test.YtpofkfcjnhoamaaRows
import Derived.WalkKit
import Derived.ProofKit
import Derived.OpenShut
import Derived.ShutString
import Derived.ChangeOld
import Derived.Below
import Derived.Deep.Matrix
import Derived.Test.YtpofkfcjnhoamaaIo
import Derived.Test.YtpofkfcjnhoamaaDrawLV
import Derived.Test.YtpofkfcjnhoamaaLineQ
import Derived.Test.YtpofkfcjnhoamaaSpecV
namespace Go.Proofs.Ytpofkfcjnhoamaa
open Go.RowKit

/-- The trains that have been counted ahead of box k. -/
def aV (l : Ln) (k : Nat) : Int := if k ≤ l.1.length then smP l.2 l.2.length (2 * k) else l.2.length
theorem aV_in {l : Ln} {k : Nat} (h : k ≤ l.1.length) : aV l k = smP l.2 l.2.length (2 * k) := if_pos h
theorem aV_out {l : Ln} {k : Nat} (h : l.1.length < k) : aV l k = l.2.length := if_neg (by omega)

set_option maxRecDepth 100000 in
set_option maxHeartbeats 8000000 in
theorem walk_FnLine (a0 : Option Addr) (len0 cap0 : Nat) (z0 : List Int) (w : World) (w0 : IsRowK .u8 w a0 len0 cap0 z0) :
    Calls Try.prog 3 #[.slice a0 len0 cap0] w fun e w' => e = .returned (.bool true) ∧ Below w.heap.size w w' := by
  rcases Nat.lt_or_ge 1048576 len0 with hbig | hsm
  · have hb : (1048576 : Int) < (len0 : Int) := by omega
    go_enter Try.func3, Try.ntmps3
    go_wp2_with fail
    go_ret
    exact ⟨rfl, Below.refl _ _⟩
  have hb : (len0 : Int) ≤ 1048576 := by omega
  have DN := Lib.hid (drawLineValid w0 hsm)
  clear w0
  go_enter Try.func3, Try.ntmps3
  go_wp2_with (go_at_call 9; refine DN.out.mono ?_)
  rintro e w1 ⟨v, l, rfl, o1, hl1, hl2, b1⟩
  obtain ⟨a1, n1, c1, a2, n2, c2, rfl⟩ := own_form o1
  have q2 := below_alloc w1 (.cells #[.slice a1 n1 c1, .slice a2 n2 c2] 26)
  have pw := Pair.new w1 (.slice a1 n1 c1) (.slice a2 n2 c2) 26
  have LV := (o1.below q2).lineV (by omega) (by omega)
  obtain ⟨V, hV⟩ : ∃ X, X = w1.alloc (.cells #[.slice a1 n1 c1, .slice a2 n2 c2] 26) := ⟨_, rfl⟩
  rw [← hV] at q2 pw LV
  have HV := Lib.hid hV.symm
  have B1 := Lib.hid (chain b1 q2)
  obtain ⟨B, hB⟩ : ∃ B, B = w1.heap.size := ⟨_, rfl⟩
  rw [← hB] at pw
  have PW := Lib.hid (fun (X : World) (q : Below V.heap.size V X) => pw.below q)
  have LW := Lib.hid (fun (X : World) (q : Below V.heap.size V X) => LV.below q)
  obtain ⟨_, _, e, ⟨_, _, e1, -, hcB⟩, ⟨_, _, e2, -, hcT⟩⟩ := id LV
  simp only [Value.agg.injEq, Array.mk.injEq, List.cons.injEq, and_true] at e
  obtain ⟨rfl, rfl⟩ := e
  simp only [Value.slice.injEq] at e1 e2
  obtain ⟨rfl, rfl, rfl⟩ := e1
  obtain ⟨rfl, rfl, rfl⟩ := e2
  have HCB := Lib.hid hcB
  have HCT := Lib.hid hcT
  clear hcB hcT
  have V0 := Lib.hid (below_self V)
  have IV := Lib.hid (fun (X : World) (q : Below V.heap.size V X) => implLineValid (LV.below q))
  have SV := Lib.hid (fun (X : World) (q : Below V.heap.size V X) => specLineValid (LV.below q))
  have IW := Lib.hid (fun (k : Int) (X : World) (q : Below V.heap.size V X) => implLineWaits k (LV.below q))
  have II := Lib.hid (fun (k : Int) (X : World) (q : Below V.heap.size V X) => implLineIn k (LV.below q))
  have LF := Lib.hid (fun h : lnB l = true => line_facts h)
  obtain ⟨t, ht⟩ : ∃ t, t = lnB l := ⟨_, rfl⟩
  have IV := IV.out
  have SV := SV.out
  simp only [← ht] at IV SV
  rw [← ht] at LF
  have IV := Lib.hid IV
  have SV := Lib.hid SV
  clear hV q2 o1 b1 LV pw ht DN
  go_upto_region 4 with fail
  rw [HV.out, ← hB]
  have p0 := PW.out V V0.out
  have x0 := p0.cell0
  have x1 := p0.cell1
  clear hB HV p0
  go_wp2_with (go_at_call 10; refine (IV.out _ V0.out).mono ?_)
  rintro e w2 ⟨rfl, b2⟩
  have B2 := Lib.hid b2
  have p2 := PW.out _ b2
  clear x0 x1 b2
  have x0 := p2.cell0
  have x1 := p2.cell1
  clear p2
  go_wp2_with (go_at_call 11; refine (SV.out _ B2.out).mono ?_)
  rintro e w3 ⟨rfl, b3⟩
  have B3 := Lib.hid (B2.out.trans (b3.mono B2.out.size))
  clear x0 x1 b3
  cases t with
  | false =>
    go_wp2_with fail
    go_ret
    exact ⟨rfl, chain B1.out B3.out⟩
  | true =>
    obtain ⟨⟨F1, F2⟩, F3, F4, F5, F6, F7⟩ := LF.out rfl
    have F4 := Lib.hid F4
    have F5 := Lib.hid F5
    have F6 := Lib.hid F6
    have F7 := Lib.hid F7
    have hn5 : (l.1.length : Int) ≤ 5 := by omega
    have A0 : aV l 0 = 0 := by rw [aV_in (Nat.zero_le _)]; rfl
    clear LF
    go_wp2_with fail
    go_loopw [6, 7, 8, 9] (fun s i _ _ wr => ∃ k : Nat, k ≤ l.1.length + 1 ∧ i = .int .i64 k ∧ s = .int .i64 (aV l k) ∧ Hid (Below V.heap.size V wr)) (fun _ i _ _ _ => l.1.length + 1 - (intOf i).toNat)
    case atStart => exact ⟨0, Nat.zero_le _, rfl, by rw [A0], B3⟩
    case round =>
      obtain ⟨k, hk, rfl, rfl, BR⟩ := hrel
      have p3 := PW.out _ BR.out
      have x0 := p3.cell0
      have x1 := p3.cell1
      clear p3 A0
      by_cases hlt : k ≤ l.1.length
      · have hki : (k : Int) ≤ (l.1.length : Int) := by omega
        have WK := IW.out k _ BR.out
        have sr := smP_range l.2 (by omega) (2 * k)
        have cr := cntAt_range l.2 (2 * k : Nat)
        have s1 := smP_cnt l.2 (2 * k)
        rw [F4.out k hlt] at WK
        rw [aV_in hlt]
        obtain ⟨s, hs⟩ : ∃ s, s = smP l.2 l.2.length (2 * k) := ⟨_, rfl⟩
        obtain ⟨c, hc⟩ : ∃ c, c = cntAt l.2 (2 * k : Nat) := ⟨_, rfl⟩
        rw [← hc] at WK cr s1
        rw [← hs] at sr s1
        rw [← hs]
        have WK := Lib.hid WK
        have S1 := Lib.hid s1
        have hw1 : IntKind.i64.wrap (s + c) = s + c := IntWalk.i64_in _ (by omega)
        clear s1 hs hc
        go_wp2_with (go_at_call 12; refine WK.out.mono ?_)
        rintro e w5 ⟨rfl, b5⟩
        have B5 := Lib.hid (BR.out.trans (b5.mono BR.out.size))
        have p5 := PW.out _ B5.out
        clear x0 x1 b5
        have x0 := p5.cell0
        have x1 := p5.cell1
        clear p5
        have IK := II.out k _ B5.out
        have hw2 : IntKind.i64.wrap (s + c + 1) = s + c + 1 := IntWalk.i64_in _ (by omega)
        by_cases hkn : k < l.1.length
        · have hkn2 : (k : Int) < (l.1.length : Int) := by omega
          have AK := Lib.hid (aV_in (l := l) (k := k + 1) (by omega))
          have s2 := smP_cnt l.2 (2 * k + 1)
          rcases F6.out k hkn with ⟨i, hi, e1, e2, e3, e4⟩ | ⟨e1, e3, e4⟩
          · rw [e1] at IK
            have IK : Calls Try.prog 13 _ w5 fun e w' => e = .returned (.tuple #[.int .i64 (i : Int), .bool true]) ∧ Below w5.heap.size w5 w' := IK
            rw [e4] at s2
            have N := Lib.hid (show aV l (k + 1) = s + c + 1 by rw [AK.out, ← S1.out]; exact s2)
            have IK := Lib.hid IK
            clear s2 e1 e4 hlt
            go_wp2_with (go_at_call 13; refine IK.out.mono ?_)
            rintro e w6 ⟨rfl, b6⟩
            have B6 := Lib.hid (B5.out.trans (b6.mono B5.out.size))
            have p6 := PW.out _ B6.out
            clear x0 x1 b6
            have x0 := p6.cell0
            have x1 := p6.cell1
            rcases HCT.out with h0 | ⟨gt, ot, rfl, hgt, hct⟩
            · rw [h0] at hi; simp at hi
            rcases HCB.out with h0 | ⟨gb, ob, rfl, hgb, hcb⟩
            · omega
            have c0 := (B6.out.cell (p := ⟨gt, ot + i, none⟩) hgt).trans (hct i hi)
            rw [e2] at c0
            have c1 := (B6.out.cell (p := ⟨gb, ob + (k * 3 + 1), none⟩) hgb).trans (hcb (k * 3 + 1) (by omega))
            rw [bkF1, e3, ← Nat.add_assoc] at c1
            have hi1 : (i : Int) < (l.2.length : Int) := by omega
            have hw3 : IntKind.i64.wrap (2 * (k : Int)) = 2 * (k : Int) := IntWalk.i64_in _ (by omega)
            have hw4 : IntKind.i64.wrap (2 * (k : Int) + 1) = 2 * (k : Int) + 1 := IntWalk.i64_in _ (by omega)
            clear p6 e2 e3 hct hcb
            go_wp2_with fail
            go_roundw
            case rel => exact ⟨k + 1, by omega, by go_num, by rw [N.out], B6⟩
            case measure => simp [intOf]; omega
          · rw [e1] at IK
            have IK : Calls Try.prog 13 _ w5 fun e w' => e = .returned (.tuple #[.int .i64 0, .bool false]) ∧ Below w5.heap.size w5 w' := IK
            rw [e4] at s2
            have N := Lib.hid (show aV l (k + 1) = s + c by rw [AK.out, ← S1.out]; rw [show 2 * (k + 1) = 2 * k + 1 + 1 by omega, s2]; omega)
            have IK := Lib.hid IK
            clear s2 e1 e4 hlt
            go_wp2_with (go_at_call 13; refine IK.out.mono ?_)
            rintro e w6 ⟨rfl, b6⟩
            have B6 := Lib.hid (B5.out.trans (b6.mono B5.out.size))
            have p6 := PW.out _ B6.out
            clear x0 x1 b6
            have x0 := p6.cell0
            have x1 := p6.cell1
            rcases HCB.out with h0 | ⟨gb, ob, rfl, hgb, hcb⟩
            · omega
            have c1 := (B6.out.cell (p := ⟨gb, ob + (k * 3 + 1), none⟩) hgb).trans (hcb (k * 3 + 1) (by omega))
            rw [bkF1, e3, ← Nat.add_assoc] at c1
            clear p6 e3 hcb
            go_wp2_with fail
            go_roundw
            case rel => exact ⟨k + 1, by omega, by go_num, by rw [N.out], B6⟩
            case measure => simp [intOf]; omega
        · obtain rfl : k = l.1.length := by omega
          rw [F5.out] at IK
          have IK : Calls Try.prog 13 _ w5 fun e w' => e = .returned (.tuple #[.int .i64 0, .bool false]) ∧ Below w5.heap.size w5 w' := IK
          have N := Lib.hid (show aV l (l.1.length + 1) = s + c by rw [aV_out (by omega), ← S1.out, F7.out])
          have IK := Lib.hid IK
          clear hlt
          go_wp2_with (go_at_call 13; refine IK.out.mono ?_)
          rintro e w6 ⟨rfl, b6⟩
          have B6 := Lib.hid (B5.out.trans (b6.mono B5.out.size))
          have p6 := PW.out _ B6.out
          clear x0 x1 b6
          have x0 := p6.cell0
          have x1 := p6.cell1
          clear p6
          go_wp2_with fail
          go_roundw
          case rel => exact ⟨l.1.length + 1, by omega, by go_num, by rw [N.out], B6⟩
          case measure => simp [intOf]
      · have hge : (l.1.length : Int) < (k : Int) := by omega
        rw [aV_out (by omega)]
        clear hlt
        go_wp2_with fail
        go_ret
        exact ⟨rfl, chain B1.out BR.out⟩

end Go.Proofs.Ytpofkfcjnhoamaa

namespace Go.Proofs.Ytpofkfcjnhoamaa.fnLine
open Go.ChangeShapes Go.WideShapes Go.ChangeAt Go.RowKit
open Go.ChangeMaps (open_string shut_string)
set_option linter.unusedVariables false

theorem own : ownKnob Try.prog.godebug = none := by kernel_rfl
theorem laidOut : laidOutB Try.prog = true := by kernel_rfl

set_option maxRecDepth 100000 in
theorem lifted (os : Os) (started : os.Started) (H : Type) (enc : TypeId × Value → H) :
    ReturnsInHanded {} Try.checked os 3 .any (Rows.fnLineSpec.pre6 enc Try.prog Try.f3 Rows.fnLineRow.domain false) (Rows.fnLineSpec.post enc Try.prog Try.f3 false true false false) := by
  refine returnsInHanded_of_change (C := Try.checked) own started (by kernel_rfl) Try.func3
    (ChangeSpec.witness6 (enc := enc) (C := Try.checked) false ⟨#[], #[.slice none 0 0], []⟩ 8 (by kernel_rfl) (by kernel_rfl) (by kernel_rfl) (by kernel_rfl)) ?_
  intro W base args ds gs before hval0 hW hcnd _
  have hval : ∀ (j : Nat) t v, Try.f3.params[j]? = some t → args[j]? = some v → Value.okWide Try.prog W .any base t v := hval0
  have hW' := hW
  obtain ⟨p, q, hA0, hV, rfl, hfz, hnd⟩ := hW
  have hA : DataW.TrodAll enc Try.prog W 0 (fun _ => true) true Try.f3.params.toList args.toList ds p := hA0
  rw [Try.params3] at hA hval
  obtain ⟨v0, vs0, d0, ds0, p0, q0, hargs, rfl, rfl, h0, r0⟩ := trodAll_cons hA
  obtain ⟨rfl, rfl, rfl⟩ := trodAll_nil r0
  obtain rfl : args = #[v0] := by cases args; simp_all
  obtain ⟨rfl, rfl⟩ := trodVars_none hV
  obtain ⟨a0, len0, cap0, rfl⟩ := okWide_slice Try.underlying22 (hval 0 22 v0 rfl rfl)
  have k0 := h0
  have lt0 : ∀ x ∈ p0, x.block < W.heap.size := by obtain ⟨m, hm⟩ := k0; exact DataW.trod_lt m _ _ _ hm
  obtain ⟨z0, w0⟩ : ∃ zs, IsRowK .u8 W a0 len0 cap0 zs := by
    obtain ⟨fuel, hf⟩ := h0
    rcases open_ints Try.underlying22 Try.underlying5 (by kernel_rfl) hf with ⟨hcs, _⟩ | ⟨x, l, c, zs, hcs, _, hl, hm, hz, _, hcell, hwz⟩
    · simp [Value.cells] at hcs
      obtain ⟨rfl, rfl, rfl⟩ := hcs
      exact ⟨[], .inl ⟨rfl, rfl, rfl, rfl⟩⟩
    · simp [Value.cells] at hcs
      obtain ⟨rfl, rfl, rfl⟩ := hcs
      exact ⟨zs, .inr ⟨_, rfl, hl, hm, by simpa using hz, hcell, hwz⟩⟩
  clear hA0 hval0
  refine (walk_FnLine a0 len0 cap0 z0 W w0).mono fun e W' ⟨he, bel⟩ => ?_
  subst he
  exact ⟨_, rfl, _, _, _, [], _, [], hW', trodAll_mk1 (shut_bool Try.underlying4 _), (trodAll_cons_mk (Below.trod laidOut (by kernel_rfl) (of_decide_eq_true (by kernel_rfl)) k0 bel lt0) trodAll_mk0), rfl, bel.frame _, fun h => by cases h⟩

theorem closed : joinedFacts Try.checked.prog 3 Try.f3 Rows.fnLineSpec Rows.fnLineRow = true := by
  unfold joinedFacts
  simp only [Bool.and_eq_true]
  repeat' (refine And.intro ?_ ?_)
  all_goals first
    | with_reducible exact may_enter
    | (rw [lifts_final]; kernel_rfl)
    | (rw [make_is]; kernel_rfl)
    | kernel_rfl

theorem over : Rows.fnLineRow.holds Try.pinned (OpenSpec.ofChange Rows.fnLineSpec) :=
  OpenClaim.holds_of_wide 3 Try.f3 rfl rfl rfl rfl rfl rfl rfl ⟨rfl, rfl, rfl, rfl, rfl⟩ rfl rfl rfl rfl rfl (by kernel_rfl) Try.func3 closed
    (of_decide_eq_true (by kernel_rfl)) (by unfold Func.isWrapper; first | (rw [if_pos (by decide +kernel)]; kernel_rfl) | (rw [if_neg (by decide +kernel)]; exact ⟨rfl, rfl⟩))
    (fun os started H enc _ => lifted os started H enc)

theorem proved : Rows.FnLineSaid := over
#print axioms proved
end Go.Proofs.Ytpofkfcjnhoamaa.fnLine
